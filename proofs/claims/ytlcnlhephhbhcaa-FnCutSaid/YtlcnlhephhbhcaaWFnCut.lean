/- The walk of the law FnCut. -/
import Derived.Test.YtlcnlhephhbhcaaDrawSig2
import Derived.Test.YtlcnlhephhbhcaaSeqAlg3
import Derived.Test.YtlcnlhephhbhcaaSigMath
namespace Go.Proofs.Ytlcnlhephhbhcaa
open Go.RowKit
set_option linter.unusedVariables false
set_option maxHeartbeats 3200000 in
set_option maxRecDepth 100000 in
theorem fnCut_walk (a0 : Option Addr) (len0 cap0 : Nat) (z0 : List Int) (w : World) (w0 : IsBytes w a0 len0 cap0 z0) :
    Calls Try.prog 11 #[.slice a0 len0 cap0] w fun e w' => e = .returned (.bool true) ∧ Below w.heap.size w w' := by
  by_cases hl0 : 1048576 < len0
  · go_enter Try.func11, Try.ntmps11
    go_wp2
    go_ret
    exact ⟨rfl, Below.refl _ _⟩
  go_enter Try.func11, Try.ntmps11
  go_wp2_with fail
  refine (drawCutSig_any a0 len0 cap0 z0 _ w0).mono ?_
  rintro e W1 ⟨v, n, f, k, l, rfl, O0, hn, hf, hk, hl, bc⟩
  clear w0
  obtain ⟨sa, sc, rfl, -⟩ := O0.form
  clear hf hk hl
  have hi := fun w h => iCut_any (.slice sa n sc) n f k l w h (by omega)
  have hs := fun w h => sCut_any (.slice sa n sc) n f k l w h (by omega)
  cases hv : ctOK n f k l with
  | false =>
    rw [hv, show ctN n f k l = 0 by unfold ctN; rw [hv]; rfl] at hi hs
    clear hv
    have HI := Lib.hid hi
    have HS := Lib.hid hs
    clear hi hs
    go_wp2_with fail
    refine (HI.out _ O0.intsC).mono ?_
    rintro e w101 ⟨v1, rfl, O103, hb102⟩
    have O104 := O0.below hb102
    clear O0
    have b105 := below_then bc (Nat.le_refl _) hb102
    clear bc
    have bc := b105
    clear b105 hb102
    go_wp2_with fail
    refine (HS.out _ O104.own).mono ?_
    rintro e w106 ⟨v2, rfl, O108, hb107⟩
    have O109 := O104.below hb107
    clear O104
    have O110 := O103.below hb107
    clear O103
    have b111 := below_then bc (Nat.le_refl _) hb107
    clear bc
    have bc := b111
    clear b111 hb107
    go_wp2_with fail
    refine (ssInts_same _ _ _ _ 0 _ _ O110 O108 (by omega)).mono ?_
    rintro e w' ⟨rfl, m112, rfl⟩
    have O114 := O109.drewN m112
    clear O109
    have O115 := O110.drewN m112
    clear O110
    have O116 := O108.drewN m112
    clear O108
    have bd := below_drewN bc m112
    clear bc
    have bc := bd
    clear bd
    obtain ⟨w113, hW⟩ : ∃ W, w106.drewN m112 = W := ⟨_, rfl⟩
    rw [hW] at O114 O115 O116 bc ⊢
    clear hW
    go_wp2_with fail
    refine (ssInts_same _ _ _ _ 0 _ _ O115 O116 (by omega)).mono ?_
    rintro e w' ⟨rfl, m117, rfl⟩
    have O119 := O114.drewN m117
    clear O114
    have O120 := O115.drewN m117
    clear O115
    have O121 := O116.drewN m117
    clear O116
    have bd := below_drewN bc m117
    clear bc
    have bc := bd
    clear bd
    obtain ⟨w118, hW⟩ : ∃ W, w113.drewN m117 = W := ⟨_, rfl⟩
    rw [hW] at O119 O120 O121 bc ⊢
    clear hW
    go_wp2
    go_ret
    exact ⟨rfl, bc⟩
  | true =>
    rw [hv, show ctN n f k l = l.toNat by unfold ctN; rw [hv]; rfl] at hi hs
    unfold ctOK at hv
    simp only [Bool.and_eq_true] at hv
    obtain ⟨h1, h2⟩ := hv
    have hb := (ctB_iff _ _ _).1 h2
    obtain ⟨b1, b2, b3, b4⟩ := hb
    obtain ⟨K, rfl⟩ : ∃ K : Nat, k = K := ⟨k.toNat, by omega⟩
    obtain ⟨M, rfl⟩ : ∃ M : Nat, l = M := ⟨l.toNat, by omega⟩
    obtain ⟨R, hR⟩ : ∃ R : Nat, n = K + M + R := ⟨n - K - M, by omega⟩
    rw [Int.toNat_natCast, Int.toNat_natCast] at hi hs
    have hA := fun w h => iCut_any (.slice sa n sc) n f 0 (K : Int) w h (by omega)
    rw [(ct_in h1 ((ctB_iff _ _ _).2 ⟨by omega, by omega, by omega, by omega⟩)).1, (ct_in h1 ((ctB_iff _ _ _).2 ⟨by omega, by omega, by omega, by omega⟩)).2, Int.toNat_natCast, Int.toNat_zero] at hA
    have hB := fun w h => iCut_any (.slice sa n sc) n f ((K + M : Nat) : Int) (R : Int) w h (by omega)
    rw [(ct_in h1 ((ctB_iff _ _ _).2 ⟨by omega, by omega, by omega, by omega⟩)).1, (ct_in h1 ((ctB_iff _ _ _).2 ⟨by omega, by omega, by omega, by omega⟩)).2, Int.toNat_natCast, Int.toNat_natCast] at hB
    rw [show ((K + M : Nat) : Int) = (K : Int) + (M : Int) by omega, show (R : Int) = (n : Int) - (K : Int) - (M : Int) by omega] at hB
    have HR := Lib.hid hR
    have hKM : K + M ≤ n := by omega
    clear h1 h2 hR b1 b2 b3 b4
    have HI := Lib.hid hi
    have HS := Lib.hid hs
    have HA := Lib.hid hA
    have HB := Lib.hid hB
    clear hi hs hA hB
    go_wp2_with fail
    refine (HI.out _ O0.intsC).mono ?_
    rintro e w101 ⟨v1, rfl, O103, hb102⟩
    have O104 := O0.below hb102
    clear O0
    have b105 := below_then bc (Nat.le_refl _) hb102
    clear bc
    have bc := b105
    clear b105 hb102
    obtain ⟨sa106, sc106, rfl, -⟩ := O103.form
    go_wp2_with fail
    refine (HS.out _ O104.own).mono ?_
    rintro e w107 ⟨v2, rfl, O109, hb108⟩
    have O110 := O104.below hb108
    clear O104
    have O111 := O103.below hb108
    clear O103
    have b112 := below_then bc (Nat.le_refl _) hb108
    clear bc
    have bc := b112
    clear b112 hb108
    go_wp2_with fail
    refine (ssInts_same _ _ _ _ M _ _ O111 O109 (by omega)).mono ?_
    rintro e w' ⟨rfl, m113, rfl⟩
    have O115 := O110.drewN m113
    clear O110
    have O116 := O111.drewN m113
    clear O111
    have O117 := O109.drewN m113
    clear O109
    have bd := below_drewN bc m113
    clear bc
    have bc := bd
    clear bd
    obtain ⟨w114, hW⟩ : ∃ W, w107.drewN m113 = W := ⟨_, rfl⟩
    rw [hW] at O115 O116 O117 bc ⊢
    clear hW
    clear O117
    go_wp2_with fail
    refine (HA.out _ O115.intsC).mono ?_
    rintro e w118 ⟨v3, rfl, O120, hb119⟩
    have O121 := O115.below hb119
    clear O115
    have O122 := O116.below hb119
    clear O116
    have b123 := below_then bc (Nat.le_refl _) hb119
    clear bc
    have bc := b123
    clear b123 hb119
    go_wp2_with fail
    refine (HB.out _ O121.intsC).mono ?_
    rintro e w124 ⟨v4, rfl, O126, hb125⟩
    have O127 := O121.below hb125
    clear O121
    have O128 := O122.below hb125
    clear O122
    have O129 := O120.below hb125
    clear O120
    have b130 := below_then bc (Nat.le_refl _) hb125
    clear bc
    have bc := b130
    clear b130 hb125
    have hkr : K + M + R ≤ 3001 := by have := HR.out; omega
    have b0 := bc.alloc bc.size (.cells #[] 3)
    have HSZ := Lib.hid bc.size
    have L132 : Hid (∀ q, Value.ownBlock _ = some q → q < w124.heap.size) := Lib.hid (fun q hq => (O127.lt q hq).2)
    have O131 := O127.alloc (.cells #[] 3)
    clear O127
    have L134 : Hid (∀ q, Value.ownBlock _ = some q → q < w124.heap.size) := Lib.hid (fun q hq => (O128.lt q hq).2)
    have O133 := O128.alloc (.cells #[] 3)
    clear O128
    have L136 : Hid (∀ q, Value.ownBlock _ = some q → q < w124.heap.size) := Lib.hid (fun q hq => (O129.lt q hq).2)
    have O135 := O129.alloc (.cells #[] 3)
    clear O129
    have L138 : Hid (∀ q, Value.ownBlock _ = some q → q < w124.heap.size) := Lib.hid (fun q hq => (O126.lt q hq).2)
    have O137 := O126.alloc (.cells #[] 3)
    clear O126
    have A0 := OF.empty0 w124 (fun _ => 0)
    clear bc
    go_wp2_with (first
      | (at_builtin
         refine wpList_append_ints rfl (.tmp 79) (.tmp 80) rfl w124.heap.size _ 0 (fun _ => 0) rfl A0 _ K (cutF 0 f) rfl O135.ints O135.tail0 (by omega) (by simp) ?_
         intro x1 w1' A1 g1
         have O139 := O131.kept g1 (apart_lo (C := w124.heap.size) L132.out (fun q hq => (A0.lt q hq).1))
         clear O131
         have O140 := O133.kept g1 (apart_lo (C := w124.heap.size) L134.out (fun q hq => (A0.lt q hq).1))
         clear O133
         have O141 := O135.kept g1 (apart_lo (C := w124.heap.size) L136.out (fun q hq => (A0.lt q hq).1))
         clear O135
         have O142 := O137.kept g1 (apart_lo (C := w124.heap.size) L138.out (fun q hq => (A0.lt q hq).1))
         clear O137
         have b1 : Below w.heap.size w w1' := b0.grown g1 (by simp; have := HSZ.out; omega) (fun q hq => Nat.le_trans HSZ.out (A0.lt q hq).1)
         have h2 : Hid (w124.heap.size ≤ w1'.heap.size) := Lib.hid (Nat.le_trans (by simp) g1.size)
         clear g1 A0 b0)
      | (at_builtin
         refine wpList_append_ints rfl (.tmp 81) (.tmp 82) rfl w124.heap.size _ (0 + K) _ rfl A1 _ M (cutF K f) rfl O140.ints O140.tail0 (by omega) h2.out ?_
         intro x2 w2' A2 g2
         have O143 := O139.kept g2 (apart_lo (C := w124.heap.size) L132.out (fun q hq => (A1.lt q hq).1))
         clear O139
         have O144 := O140.kept g2 (apart_lo (C := w124.heap.size) L134.out (fun q hq => (A1.lt q hq).1))
         clear O140
         have O145 := O141.kept g2 (apart_lo (C := w124.heap.size) L136.out (fun q hq => (A1.lt q hq).1))
         clear O141
         have O146 := O142.kept g2 (apart_lo (C := w124.heap.size) L138.out (fun q hq => (A1.lt q hq).1))
         clear O142
         have b2 : Below w.heap.size w w2' := b1.grown g2 (Nat.le_trans HSZ.out h2.out) (fun q hq => Nat.le_trans HSZ.out (A1.lt q hq).1)
         have h3 : Hid (w124.heap.size ≤ w2'.heap.size) := Lib.hid (Nat.le_trans h2.out g2.size)
         clear g2 A1 b1)
      | (at_builtin
         refine wpList_append_ints rfl (.tmp 83) (.tmp 84) rfl w124.heap.size _ (0 + K + M) _ rfl A2 _ R (cutF (K + M) f) rfl O146.ints O146.tail0 (by omega) h3.out ?_
         intro x3 w3' A3 g3
         have O147 := O143.kept g3 (apart_lo (C := w124.heap.size) L132.out (fun q hq => (A2.lt q hq).1))
         clear O143
         have O148 := O144.kept g3 (apart_lo (C := w124.heap.size) L134.out (fun q hq => (A2.lt q hq).1))
         clear O144
         have O149 := O145.kept g3 (apart_lo (C := w124.heap.size) L136.out (fun q hq => (A2.lt q hq).1))
         clear O145
         have O150 := O146.kept g3 (apart_lo (C := w124.heap.size) L138.out (fun q hq => (A2.lt q hq).1))
         clear O146
         have b3 : Below w.heap.size w w3' := b2.grown g3 (Nat.le_trans HSZ.out h3.out) (fun q hq => Nat.le_trans HSZ.out (A2.lt q hq).1)
         clear g3 A2 b2))
    have A4 : OF w3' w124.heap.size x3 n f := by
      have hR := HR.out
      have e : 0 + K + M + R = n := by omega
      rw [e] at A3
      refine A3.congr (fun j hj => ?_)
      have := ct_all f K M R j (by omega)
      simp only [Nat.zero_add, Nat.not_lt_zero, if_false, Nat.sub_zero, cutF] at this ⊢
      exact this
    clear A3 hkr
    have bc := b3
    clear b3
    go_wp2_with fail
    refine (ssInts_same _ _ _ _ n _ _ A4 O147 (by omega)).mono ?_
    rintro e w' ⟨rfl, m151, rfl⟩
    have O153 := O147.drewN m151
    clear O147
    have O154 := O148.drewN m151
    clear O148
    have O155 := O149.drewN m151
    clear O149
    have O156 := O150.drewN m151
    clear O150
    have O157 := A4.drewN m151
    clear A4
    have bd := below_drewN bc m151
    clear bc
    have bc := bd
    clear bd
    obtain ⟨w152, hW⟩ : ∃ W, w3'.drewN m151 = W := ⟨_, rfl⟩
    rw [hW] at O153 O154 O155 O156 O157 bc ⊢
    clear hW
    go_wp2
    go_ret
    exact ⟨rfl, bc⟩
end Go.Proofs.Ytlcnlhephhbhcaa
