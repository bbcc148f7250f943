/- The walk of the law FnShiftHops. -/
import Derived.Test.YtbllmgdnhjdphabDrawHop2
import Derived.Test.YtbllmgdnhjdphabHopLaw
namespace Go.Proofs.Ytbllmgdnhjdphab
open Go.RowKit
set_option linter.unusedVariables false
set_option maxHeartbeats 1600000 in
set_option maxRecDepth 100000 in
theorem fnShiftHops_walk (a0 : Option Addr) (len0 cap0 : Nat) (z0 : List Int) (a1 : Option Addr) (len1 cap1 : Nat) (z1 : List Int) (w : World) (w0 : IsBytes w a0 len0 cap0 z0) (w1 : IsBytes w a1 len1 cap1 z1) :
    Calls Try.prog 7 #[.slice a0 len0 cap0, .slice a1 len1 cap1] w fun e w' => e = .returned (.bool true) ∧ Below w.heap.size w w' := by
  by_cases hl0 : 1048576 < len0
  · go_enter Try.func7, Try.ntmps7
    go_wp2
    go_ret
    exact ⟨rfl, Below.refl _ _⟩
  by_cases hl1 : 1048576 < len1
  · go_enter Try.func7, Try.ntmps7
    go_wp2
    go_ret
    exact ⟨rfl, Below.refl _ _⟩
  clear w1
  go_enter Try.func7, Try.ntmps7
  go_wp2_with fail
  refine (drawShiftHops_any a0 len0 cap0 z0 _ w0).mono ?_
  rintro e W1 ⟨v, n, f, k, rfl, O0, hn, hf, hk, bc⟩
  clear w0
  obtain ⟨sa, sc, rfl, -⟩ := O0.form
  clear hf
  have hi := fun w h => iShift_any (.slice sa n sc) n f k w h (by omega)
  have hs := fun w h => sShift_any (.slice sa n sc) n f k w h (by omega)
  cases hv : someB n f with
  | false =>
    rw [hv, shN_no hv] at hi hs
    clear hv hk
    have HI := Lib.hid hi
    have HS := Lib.hid hs
    clear hi hs
    go_wp2_with fail
    refine (HI.out _ O0.intsC).mono ?_
    rintro e w101 ⟨v1, rfl, O103, hb102⟩
    have O104 := O0.below hb102
    clear O0
    have b105 := below_then bc (Nat.le_refl _) hb102
    clear bc
    have bc := b105
    clear b105 hb102
    go_wp2_with fail
    refine (HS.out _ O104.intsC).mono ?_
    rintro e w106 ⟨v2, rfl, O108, hb107⟩
    have O109 := O104.below hb107
    clear O104
    have O110 := O103.below hb107
    clear O103
    have b111 := below_then bc (Nat.le_refl _) hb107
    clear bc
    have bc := b111
    clear b111 hb107
    go_wp2_with fail
    refine (ssInts_same _ _ _ _ 0 _ _ O110 O108 (by omega)).mono ?_
    rintro e w' ⟨rfl, m112, rfl⟩
    have O114 := O109.drewN m112
    clear O109
    have O115 := O110.drewN m112
    clear O110
    have O116 := O108.drewN m112
    clear O108
    have bd := below_drewN bc m112
    clear bc
    have bc := bd
    clear bd
    obtain ⟨w113, hW⟩ : ∃ W, w106.drewN m112 = W := ⟨_, rfl⟩
    rw [hW] at O114 O115 O116 bc ⊢
    clear hW
    go_wp2_with fail
    refine (ssInts_same _ _ _ _ 0 _ _ O115 O116 (by omega)).mono ?_
    rintro e w' ⟨rfl, m117, rfl⟩
    have O119 := O114.drewN m117
    clear O114
    have O120 := O115.drewN m117
    clear O115
    have O121 := O116.drewN m117
    clear O116
    have bd := below_drewN bc m117
    clear bc
    have bc := bd
    clear bd
    obtain ⟨w118, hW⟩ : ∃ W, w113.drewN m117 = W := ⟨_, rfl⟩
    rw [hW] at O119 O120 O121 bc ⊢
    clear hW
    go_wp2
    go_ret
    exact ⟨rfl, bc⟩
  | true =>
    rw [hv, shN_yes hv] at hi hs
    have hv2 := someB_shF k hv
    obtain ⟨h0, h3, -⟩ := (someB_iff n f).1 hv
    have hbk := sh_back n f k h0
    obtain ⟨m, hm⟩ : ∃ m : Nat, len1 % 30 = m := ⟨_, rfl⟩
    have hmm : (len1 : Int) % 30 = (m : Int) := by omega
    have hm1 : m < 30 := by omega
    clear hm
    have hz := sh_add n f k m h0
    have hcl := sh_meet n f k hv
    obtain ⟨R, hR⟩ : ∃ R, k.tmod (n : Int) = R := ⟨_, rfl⟩
    obtain ⟨R1, R2⟩ := tmod_bd k n h0
    rw [hR] at hbk hz hcl R1 R2
    have hb := fun w h => iShift_any (.slice sa n sc) n f (R + (m : Int)) w h (by omega)
    rw [hv, shN_yes hv, hz] at hb
    have ha := fun u w h => iShift_any u n (shF n f k) (m : Int) w h (by omega)
    rw [hv2, shN_yes hv2] at ha
    have hc := fun u w h => iShift_any u n (shF n f k) (-R) w h (by omega)
    rw [hv2, shN_yes hv2] at hc
    have hd := fun u v w h1 h2 => iColl_w u n (shF n f k) v n f R w h1 (by omega) h2 (by omega)
    rw [hcl] at hd
    obtain ⟨X, hX⟩ : ∃ X, shF n f k = X := ⟨_, rfl⟩
    rw [hX] at hi hs hb ha hc hd hbk
    obtain ⟨Y, hY⟩ : ∃ Y, shF n X (m : Int) = Y := ⟨_, rfl⟩
    rw [hY] at hb ha
    clear hX hY hcl hz hv hv2 hk
    have l0 : ¬ ((n : Int) = 0) := by omega
    have l1 : ((n : Int) == 0) = false := by simp; omega
    have HI := Lib.hid hi
    have HS := Lib.hid hs
    have HA := Lib.hid ha
    have HB := Lib.hid hb
    have HC := Lib.hid hc
    have HD := Lib.hid hd
    have HBK := Lib.hid hbk
    clear hi hs ha hb hc hd hbk
    go_wp2_with fail
    refine (HI.out _ O0.intsC).mono ?_
    rintro e w101 ⟨v1, rfl, O103, hb102⟩
    have O104 := O0.below hb102
    clear O0
    have b105 := below_then bc (Nat.le_refl _) hb102
    clear bc
    have bc := b105
    clear b105 hb102
    obtain ⟨sa106, sc106, rfl, -⟩ := O103.form
    go_wp2_with fail
    refine (HS.out _ O104.intsC).mono ?_
    rintro e w107 ⟨v2, rfl, O109, hb108⟩
    have O110 := O104.below hb108
    clear O104
    have O111 := O103.below hb108
    clear O103
    have b112 := below_then bc (Nat.le_refl _) hb108
    clear bc
    have bc := b112
    clear b112 hb108
    go_wp2_with fail
    refine (ssInts_same _ _ _ _ n _ _ O111 O109 (by omega)).mono ?_
    rintro e w' ⟨rfl, m113, rfl⟩
    have O115 := O110.drewN m113
    clear O110
    have O116 := O111.drewN m113
    clear O111
    have O117 := O109.drewN m113
    clear O109
    have bd := below_drewN bc m113
    clear bc
    have bc := bd
    clear bd
    obtain ⟨w114, hW⟩ : ∃ W, w107.drewN m113 = W := ⟨_, rfl⟩
    rw [hW] at O115 O116 O117 bc ⊢
    clear hW
    clear O117
    go_wp2_with fail
    refine (HC.out _ _ O116.intsC).mono ?_
    rintro e w118 ⟨v3, rfl, O120, hb119⟩
    have O121 := O115.below hb119
    clear O115
    have O122 := O116.below hb119
    clear O116
    have b123 := below_then bc (Nat.le_refl _) hb119
    clear bc
    have bc := b123
    clear b123 hb119
    have O3 := O120.congr (g := f) (fun j hj => HBK.out j hj)
    clear O120
    go_wp2_with fail
    refine (HA.out _ _ O122.intsC).mono ?_
    rintro e w124 ⟨v4, rfl, O126, hb125⟩
    have O127 := O121.below hb125
    clear O121
    have O128 := O122.below hb125
    clear O122
    have O129 := O3.below hb125
    clear O3
    have b130 := below_then bc (Nat.le_refl _) hb125
    clear bc
    have bc := b130
    clear b130 hb125
    go_wp2_with fail
    refine (HB.out _ O127.intsC).mono ?_
    rintro e w131 ⟨v5, rfl, O133, hb132⟩
    have O134 := O127.below hb132
    clear O127
    have O135 := O128.below hb132
    clear O128
    have O136 := O129.below hb132
    clear O129
    have O137 := O126.below hb132
    clear O126
    have b138 := below_then bc (Nat.le_refl _) hb132
    clear bc
    have bc := b138
    clear b138 hb132
    go_wp2_with fail
    refine (ssInts_same _ _ _ _ n _ _ O136 O134 (by omega)).mono ?_
    rintro e w' ⟨rfl, m139, rfl⟩
    have O141 := O134.drewN m139
    clear O134
    have O142 := O135.drewN m139
    clear O135
    have O143 := O136.drewN m139
    clear O136
    have O144 := O137.drewN m139
    clear O137
    have O145 := O133.drewN m139
    clear O133
    have bd := below_drewN bc m139
    clear bc
    have bc := bd
    clear bd
    obtain ⟨w140, hW⟩ : ∃ W, w131.drewN m139 = W := ⟨_, rfl⟩
    rw [hW] at O141 O142 O143 O144 O145 bc ⊢
    clear hW
    go_wp2_with fail
    refine (ssInts_same _ _ _ _ n _ _ O144 O145 (by omega)).mono ?_
    rintro e w' ⟨rfl, m146, rfl⟩
    have O148 := O141.drewN m146
    clear O141
    have O149 := O142.drewN m146
    clear O142
    have O150 := O143.drewN m146
    clear O143
    have O151 := O144.drewN m146
    clear O144
    have O152 := O145.drewN m146
    clear O145
    have bd := below_drewN bc m146
    clear bc
    have bc := bd
    clear bd
    obtain ⟨w147, hW⟩ : ∃ W, w140.drewN m146 = W := ⟨_, rfl⟩
    rw [hW] at O148 O149 O150 O151 O152 bc ⊢
    clear hW
    go_wp2_with fail
    refine (HD.out _ _ _ O149.intsC O148.intsC).mono ?_
    rintro e w153 ⟨rfl, hb154⟩
    have O155 := O148.below hb154
    clear O148
    have O156 := O149.below hb154
    clear O149
    have O157 := O150.below hb154
    clear O150
    have O158 := O151.below hb154
    clear O151
    have O159 := O152.below hb154
    clear O152
    have b160 := below_then bc (Nat.le_refl _) hb154
    clear bc
    have bc := b160
    clear b160 hb154
    go_wp2
    go_ret
    exact ⟨rfl, bc⟩
end Go.Proofs.Ytbllmgdnhjdphab
