/- The walk of the law FnDelay. -/
import Derived.Test.YtlcnlhephhbhcaaDrawSig2
import Derived.Test.YtlcnlhephhbhcaaSeqAlg3
import Derived.Test.YtlcnlhephhbhcaaSigMath
namespace Go.Proofs.Ytlcnlhephhbhcaa
open Go.RowKit
set_option linter.unusedVariables false
set_option maxHeartbeats 1600000 in
set_option maxRecDepth 100000 in
theorem fnDelay_walk (a0 : Option Addr) (len0 cap0 : Nat) (z0 : List Int) (w : World) (w0 : IsBytes w a0 len0 cap0 z0) :
    Calls Try.prog 10 #[.slice a0 len0 cap0] w fun e w' => e = .returned (.bool true) ∧ Below w.heap.size w w' := by
  by_cases hl0 : 1048576 < len0
  · go_enter Try.func10, Try.ntmps10
    go_wp2
    go_ret
    exact ⟨rfl, Below.refl _ _⟩
  go_enter Try.func10, Try.ntmps10
  go_wp2_with fail
  refine (drawDelaySig_any a0 len0 cap0 z0 _ w0).mono ?_
  rintro e W1 ⟨v, n, f, k, rfl, O0, hn, hf, hk, bc⟩
  clear w0
  obtain ⟨sa, sc, rfl, -⟩ := O0.form
  clear hf hk
  have hi := fun w h => iDelay_any (.slice sa n sc) n f k w h (by omega)
  have hs := fun w h => sDelay_any (.slice sa n sc) n f k w h (by omega)
  cases hv : dlOK n f k with
  | false =>
    rw [hv, show dlN n f k = 0 by unfold dlN; rw [hv]; rfl] at hi hs
    clear hv
    have HI := Lib.hid hi
    have HS := Lib.hid hs
    clear hi hs
    go_wp2_with fail
    refine (HI.out _ O0.ints).mono ?_
    rintro e w101 ⟨v1, rfl, O103, hb102⟩
    have O104 := O0.below hb102
    clear O0
    have b105 := below_then bc (Nat.le_refl _) hb102
    clear bc
    have bc := b105
    clear b105 hb102
    go_wp2_with fail
    refine (HS.out _ O104.own).mono ?_
    rintro e w106 ⟨v2, rfl, O108, hb107⟩
    have O109 := O104.below hb107
    clear O104
    have O110 := O103.below hb107
    clear O103
    have b111 := below_then bc (Nat.le_refl _) hb107
    clear bc
    have bc := b111
    clear b111 hb107
    go_wp2_with fail
    refine (ssInts_same _ _ _ _ 0 _ _ O110 O108 (by omega)).mono ?_
    rintro e w' ⟨rfl, m112, rfl⟩
    have O114 := O109.drewN m112
    clear O109
    have O115 := O110.drewN m112
    clear O110
    have O116 := O108.drewN m112
    clear O108
    have bd := below_drewN bc m112
    clear bc
    have bc := bd
    clear bd
    obtain ⟨w113, hW⟩ : ∃ W, w106.drewN m112 = W := ⟨_, rfl⟩
    rw [hW] at O114 O115 O116 bc ⊢
    clear hW
    go_wp2_with fail
    refine (ssInts_same _ _ _ _ 0 _ _ O115 O116 (by omega)).mono ?_
    rintro e w' ⟨rfl, m117, rfl⟩
    have O119 := O114.drewN m117
    clear O114
    have O120 := O115.drewN m117
    clear O115
    have O121 := O116.drewN m117
    clear O116
    have bd := below_drewN bc m117
    clear bc
    have bc := bd
    clear bd
    obtain ⟨w118, hW⟩ : ∃ W, w113.drewN m117 = W := ⟨_, rfl⟩
    rw [hW] at O119 O120 O121 bc ⊢
    clear hW
    go_wp2
    go_ret
    exact ⟨rfl, bc⟩
  | true =>
    rw [hv, show dlN n f k = k.toNat + n by unfold dlN; rw [hv]; rfl] at hi hs
    unfold dlOK at hv
    simp only [Bool.and_eq_true] at hv
    obtain ⟨h1, h2, h3⟩ := hv
    have hkb := (inK_iff k).1 h2
    obtain ⟨K, rfl⟩ : ∃ K : Nat, k = K := ⟨k.toNat, by omega⟩
    have hK : K ≤ 3000 := by omega
    rw [Int.toNat_natCast] at hi hs h3
    clear hkb h2
    have hlen := ((sigB_iff _ _).1 h3).2
    have hA := fun u w h => iCut_any u (K + n) (dlF K f) (K : Int) (n : Int) w h (by omega)
    rw [(ct_in h3 ((ctB_iff _ _ _).2 ⟨by omega, by omega, by omega, by omega⟩)).1, (ct_in h3 ((ctB_iff _ _ _).2 ⟨by omega, by omega, by omega, by omega⟩)).2, Int.toNat_natCast, Int.toNat_natCast, dl_cut] at hA
    have hB := fun u w h => iCut_any u (K + n) (dlF K f) 0 (K : Int) w h (by omega)
    rw [(ct_in h3 ((ctB_iff _ _ _).2 ⟨by omega, by omega, by omega, by omega⟩)).1, (ct_in h3 ((ctB_iff _ _ _).2 ⟨by omega, by omega, by omega, by omega⟩)).2, Int.toNat_natCast, Int.toNat_zero] at hB
    have hE := fun u w h => iEnergy_any u K (cutF 0 (dlF K f)) w h (by omega)
    rw [show enAns K (cutF 0 (dlF K f)) = 0 by unfold enAns; rw [ct_sig h3 0 K (by omega)]; exact dl_head K f K (Nat.le_refl _)] at hE
    have hE1 := fun u w h => iEnergy_any u (K + n) (dlF K f) w h (by omega)
    rw [show enAns (K + n) (dlF K f) = enF f n by unfold enAns; rw [h3]; exact en_dl K f n] at hE1
    have hE2 := fun u w h => iEnergy_any u n f w h (by omega)
    rw [show enAns n f = enF f n by unfold enAns; rw [h1]; rfl] at hE2
    obtain ⟨E, hEE⟩ : ∃ E, enF f n = E := ⟨_, rfl⟩
    rw [hEE] at hE1 hE2
    obtain ⟨G, hG⟩ : ∃ G, dlF K f = G := ⟨_, rfl⟩
    rw [hG] at hi hs hA hB hE hE1
    obtain ⟨Z, hZ⟩ : ∃ Z, cutF 0 G = Z := ⟨_, rfl⟩
    rw [hZ] at hB hE
    clear hEE hG hZ h1 h3
    obtain ⟨L, hL⟩ : ∃ L, K + n = L := ⟨_, rfl⟩
    have hLn : (L : Int) = (n : Int) + (K : Int) := by omega
    rw [hL] at hi hs hA hB hE1 hlen
    clear hL
    have HI := Lib.hid hi
    have HS := Lib.hid hs
    have HA := Lib.hid hA
    have HB := Lib.hid hB
    have HE := Lib.hid hE
    have HE1 := Lib.hid hE1
    have HE2 := Lib.hid hE2
    have HLN := Lib.hid hLn
    clear hi hs hA hB hE hE1 hE2 hLn
    go_wp2_with fail
    refine (HI.out _ O0.ints).mono ?_
    rintro e w101 ⟨v1, rfl, O103, hb102⟩
    have O104 := O0.below hb102
    clear O0
    have b105 := below_then bc (Nat.le_refl _) hb102
    clear bc
    have bc := b105
    clear b105 hb102
    obtain ⟨sa106, sc106, rfl, -⟩ := O103.form
    go_wp2_with fail
    refine (HS.out _ O104.own).mono ?_
    rintro e w107 ⟨v2, rfl, O109, hb108⟩
    have O110 := O104.below hb108
    clear O104
    have O111 := O103.below hb108
    clear O103
    have b112 := below_then bc (Nat.le_refl _) hb108
    clear bc
    have bc := b112
    clear b112 hb108
    go_wp2_with fail
    refine (ssInts_same _ _ _ _ L _ _ O111 O109 (by omega)).mono ?_
    rintro e w' ⟨rfl, m113, rfl⟩
    have O115 := O110.drewN m113
    clear O110
    have O116 := O111.drewN m113
    clear O111
    have O117 := O109.drewN m113
    clear O109
    have bd := below_drewN bc m113
    clear bc
    have bc := bd
    clear bd
    obtain ⟨w114, hW⟩ : ∃ W, w107.drewN m113 = W := ⟨_, rfl⟩
    rw [hW] at O115 O116 O117 bc ⊢
    clear hW
    clear O117
    go_wp2_with fail
    refine (HA.out _ _ O116.intsC).mono ?_
    rintro e w118 ⟨v3, rfl, O120, hb119⟩
    have O121 := O115.below hb119
    clear O115
    have O122 := O116.below hb119
    clear O116
    have b123 := below_then bc (Nat.le_refl _) hb119
    clear bc
    have bc := b123
    clear b123 hb119
    go_wp2_with fail
    refine (HB.out _ _ O122.intsC).mono ?_
    rintro e w124 ⟨v4, rfl, O126, hb125⟩
    have O127 := O121.below hb125
    clear O121
    have O128 := O122.below hb125
    clear O122
    have O129 := O120.below hb125
    clear O120
    have b130 := below_then bc (Nat.le_refl _) hb125
    clear bc
    have bc := b130
    clear b130 hb125
    go_wp2_with fail
    refine (ssInts_same _ _ _ _ n _ _ O129 O127 (by omega)).mono ?_
    rintro e w' ⟨rfl, m131, rfl⟩
    have O133 := O127.drewN m131
    clear O127
    have O134 := O128.drewN m131
    clear O128
    have O135 := O129.drewN m131
    clear O129
    have O136 := O126.drewN m131
    clear O126
    have bd := below_drewN bc m131
    clear bc
    have bc := bd
    clear bd
    obtain ⟨w132, hW⟩ : ∃ W, w124.drewN m131 = W := ⟨_, rfl⟩
    rw [hW] at O133 O134 O135 O136 bc ⊢
    clear hW
    go_wp2_with fail
    refine (HE.out _ _ O136.ints).mono ?_
    rintro e w137 ⟨rfl, hb138⟩
    have O139 := O133.below hb138
    clear O133
    have O140 := O134.below hb138
    clear O134
    have O141 := O135.below hb138
    clear O135
    have O142 := O136.below hb138
    clear O136
    have b143 := below_then bc (Nat.le_refl _) hb138
    clear bc
    have bc := b143
    clear b143 hb138
    go_wp2_with fail
    refine (HE1.out _ _ O140.ints).mono ?_
    rintro e w144 ⟨rfl, hb145⟩
    have O146 := O139.below hb145
    clear O139
    have O147 := O140.below hb145
    clear O140
    have O148 := O141.below hb145
    clear O141
    have O149 := O142.below hb145
    clear O142
    have b150 := below_then bc (Nat.le_refl _) hb145
    clear bc
    have bc := b150
    clear b150 hb145
    go_wp2_with fail
    refine (HE2.out _ _ O146.ints).mono ?_
    rintro e w151 ⟨rfl, hb152⟩
    have O153 := O146.below hb152
    clear O146
    have O154 := O147.below hb152
    clear O147
    have O155 := O148.below hb152
    clear O148
    have O156 := O149.below hb152
    clear O149
    have b157 := below_then bc (Nat.le_refl _) hb152
    clear bc
    have bc := b157
    clear b157 hb152
    have hLn := HLN.out
    go_wp2
    go_ret
    exact ⟨rfl, bc⟩
end Go.Proofs.Ytlcnlhephhbhcaa
