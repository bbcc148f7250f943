/- The walk of the law FnExactMarginOf. -/
import Derived.Test.YtkikhgmglacflaaSig15
import Derived.Test.YtkikhgmglacflaaStrFrame
namespace Go.Proofs.Ytkikhgmglacflaa
open Go.RowKit
set_option linter.unusedVariables false
set_option maxHeartbeats 3200000 in
set_option maxRecDepth 100000 in
theorem fnExactMarginOf_walk (a0 : Option Addr) (len0 cap0 : Nat) (z0 : Nat → Int) (z1 : ByteArray) (k2 : Int) (z3 : ByteArray) (w : World) (h0 : IntsIn w a0 len0 cap0 z0) (h1 : z1.size ≤ maxLen) (_ : (Lit.int .i64 k2).wf = true) (h3 : z3.size ≤ maxLen) :
    Calls Try.prog 16 #[.slice a0 len0 cap0, .string z1, .int .i64 k2, .string z3] w fun e w' => e = .returned (.bool true) ∧ Below w.heap.size w w' := by
  obtain ⟨hl0, hz0⟩ := h0
  unfold maxLen at hl0
  unfold maxLen at h1
  unfold maxLen at h3
  by_cases hg0 : 1048576 < len0
  · skip
    clear hz0
    go_enter Try.func16, Try.ntmps16
    go_wp2
    go_ret
    exact ⟨rfl, Below.refl _ _⟩
  · skip
    by_cases hg1 : 1048576 < z1.size
    · skip
      clear hz0
      go_enter Try.func16, Try.ntmps16
      go_wp2
      go_ret
      exact ⟨rfl, Below.refl _ _⟩
    · skip
      by_cases hg3 : 1048576 < z3.size
      · skip
        clear hz0
        go_enter Try.func16, Try.ntmps16
        go_wp2
        go_ret
        exact ⟨rfl, Below.refl _ _⟩
      · skip
        have HS0 : Hid (IntsR w (.slice a0 len0 cap0) len0 z0) := Lib.hid ⟨a0, cap0, rfl, fun i hi => (hz0 i hi).2⟩
        have HT0 := Lib.hid (fun v w hS => toIntS_any v len0 z0 w hS (by omega))
        have hp := (fun v0 w r0 => sMarg_any v0 len0 z0 z1 k2 z3 w r0 (by omega) (by omega)  (by omega))
        have hq := (fun v0 w r0 => iMarg_any v0 len0 z0 z1 k2 z3 w r0 (by omega) (by omega)  (by omega))
        have hn0 : len0 ≤ 1048576 := by omega
        have lg0 : ¬ ((1048576 : Int) < (len0 : Int)) := by omega
        clear hz0
        obtain ⟨X0, hX0⟩ : ∃ X, (mgAns len0 z0 z1 k2 z3).1 = X := ⟨_, rfl⟩
        rw [hX0] at hp hq
        clear hX0
        obtain ⟨X1, hX1⟩ : ∃ X, (mgAns len0 z0 z1 k2 z3).2 = X := ⟨_, rfl⟩
        rw [hX1] at hp hq
        clear hX1
        have HP := Lib.hid hp
        have HQ := Lib.hid hq
        clear hp hq
        have bc : Below w.heap.size w w := Below.refl _ _
        cases X1
        all_goals
          go_enter Try.func16, Try.ntmps16
          have bc0 : Hid (w.heap.size ≤ w.heap.size) := Lib.hid (Nat.le_refl _)
          go_wp2_with fail
          refine (HT0.out _ _ (HS0.out.below bc)).mono ?_
          rintro e w1 ⟨v3, rfl, O4, hb2⟩
          have b5 := below_then bc (Nat.le_refl _) hb2
          clear bc
          have bc := b5
          clear b5
          have hlv3 : Hid (∀ k, Value.ownBlock v3 = some k → w.heap.size ≤ k) := Lib.hid (fun k hk => (O4.lt k hk).1)
          have huv3 : Hid (∀ k, Value.ownBlock v3 = some k → k < w1.heap.size) := Lib.hid (fun k hk => (O4.lt k hk).2)
          have hcv3 : Hid (w.heap.size ≤ w.heap.size) := Lib.hid (by have h1 := bc.size; have h2 := hb2.size; have := bc0.out; omega)
          have hov3' : Hid (w.heap.size ≤ w1.heap.size) := Lib.hid hb2.size
          obtain ⟨Dv3, hD⟩ : ∃ D, w1.heap.size = D := ⟨_, rfl⟩
          have hz : Hid (Dv3 ≤ w1.heap.size) := Lib.hid (by omega)
          rw [hD] at huv3 hov3'
          clear hD
          obtain ⟨Cv3, hC⟩ : ∃ C, w.heap.size = C := ⟨_, rfl⟩
          rw [hC] at O4 hlv3 hcv3 hov3'
          clear hC
          have bc1 : Hid (w.heap.size ≤ _) := Lib.hid bc.size
          clear bc0
          have bc0 := bc1
          clear bc1
          clear hb2
          go_wp2_with fail
          refine (HP.out _ _ O4.ints).mono ?_
          rintro e w6 ⟨rfl, hb7⟩
          have O8 := O4.below hb7
          clear O4
          have b9 := below_then bc (Nat.le_refl _) hb7
          clear bc
          have bc := b9
          clear b9
          have hy := Nat.le_trans hz.out hb7.size
          have hz' := Lib.hid hy
          clear hz hy
          have hz := hz'
          clear hz'
          have bc1 : Hid (w.heap.size ≤ _) := Lib.hid bc.size
          clear bc0
          have bc0 := bc1
          clear bc1
          clear hb7
          clear O8
          go_wp2_with fail
          refine (HT0.out _ _ (HS0.out.below bc)).mono ?_
          rintro e w10 ⟨v12, rfl, O13, hb11⟩
          have b14 := below_then bc (Nat.le_refl _) hb11
          clear bc
          have bc := b14
          clear b14
          have hy := Nat.le_trans hz.out hb11.size
          have hlv12 : Hid (∀ k, Value.ownBlock v12 = some k → w6.heap.size ≤ k) := Lib.hid (fun k hk => (O13.lt k hk).1)
          have huv12 : Hid (∀ k, Value.ownBlock v12 = some k → k < w10.heap.size) := Lib.hid (fun k hk => (O13.lt k hk).2)
          have hcv12 : Hid (w.heap.size ≤ w6.heap.size) := Lib.hid (by have h1 := bc.size; have h2 := hb11.size; have := bc0.out; omega)
          have hov12 : Hid (Dv3 ≤ w6.heap.size) := hz
          have hov12' : Hid (w6.heap.size ≤ w10.heap.size) := Lib.hid hb11.size
          clear hz hy
          obtain ⟨Dv12, hD⟩ : ∃ D, w10.heap.size = D := ⟨_, rfl⟩
          have hz : Hid (Dv12 ≤ w10.heap.size) := Lib.hid (by omega)
          rw [hD] at huv12 hov12'
          clear hD
          obtain ⟨Cv12, hC⟩ : ∃ C, w6.heap.size = C := ⟨_, rfl⟩
          rw [hC] at O13 hlv12 hcv12 hov12' hov12
          clear hC
          have bc1 : Hid (w.heap.size ≤ _) := Lib.hid bc.size
          clear bc0
          have bc0 := bc1
          clear bc1
          clear hb11
          go_wp2_with fail
          refine (HQ.out _ _ O13.intsC).mono ?_
          rintro e w15 ⟨rfl, hb16⟩
          have O17 := O13.below hb16
          clear O13
          have b18 := below_then bc (Nat.le_refl _) hb16
          clear bc
          have bc := b18
          clear b18
          have hy := Nat.le_trans hz.out hb16.size
          have hz' := Lib.hid hy
          clear hz hy
          have hz := hz'
          clear hz'
          have bc1 : Hid (w.heap.size ≤ _) := Lib.hid bc.size
          clear bc0
          have bc0 := bc1
          clear bc1
          clear hb16
          go_wp2_with fail
          refine (HT0.out _ _ (HS0.out.below bc)).mono ?_
          rintro e w19 ⟨v21, rfl, O22, hb20⟩
          have O23 := O17.below hb20
          clear O17
          have b24 := below_then bc (Nat.le_refl _) hb20
          clear bc
          have bc := b24
          clear b24
          have hy := Nat.le_trans hz.out hb20.size
          have hlv21 : Hid (∀ k, Value.ownBlock v21 = some k → w15.heap.size ≤ k) := Lib.hid (fun k hk => (O22.lt k hk).1)
          have huv21 : Hid (∀ k, Value.ownBlock v21 = some k → k < w19.heap.size) := Lib.hid (fun k hk => (O22.lt k hk).2)
          have hcv21 : Hid (w.heap.size ≤ w15.heap.size) := Lib.hid (by have h1 := bc.size; have h2 := hb20.size; have := bc0.out; omega)
          have hov21 : Hid (Dv12 ≤ w15.heap.size) := hz
          have hov21' : Hid (w15.heap.size ≤ w19.heap.size) := Lib.hid hb20.size
          clear hz hy
          obtain ⟨Dv21, hD⟩ : ∃ D, w19.heap.size = D := ⟨_, rfl⟩
          have hz : Hid (Dv21 ≤ w19.heap.size) := Lib.hid (by omega)
          rw [hD] at huv21 hov21'
          clear hD
          obtain ⟨Cv21, hC⟩ : ∃ C, w15.heap.size = C := ⟨_, rfl⟩
          rw [hC] at O22 hlv21 hcv21 hov21' hov21
          clear hC
          have bc1 : Hid (w.heap.size ≤ _) := Lib.hid bc.size
          clear bc0
          have bc0 := bc1
          clear bc1
          clear hb20
          go_wp2_with fail
          refine (eqIntS_big v12 v21 _ _ len0 z0 _ O23 O22 (by omega)).mono ?_
          rintro e w' ⟨rfl, m25, rfl⟩
          have O27 := O23.drewN m25
          clear O23
          have O28 := O22.drewN m25
          clear O22
          have bd := below_drewN bc m25
          clear bc
          have bc := bd
          clear bd
          have hz' : Hid (Dv21 ≤ (w19.drewN m25).heap.size) := hz
          clear hz
          have hz := hz'
          clear hz'
          have bc1 : Hid (w.heap.size ≤ (w19.drewN m25).heap.size) := Lib.hid bc.size
          clear bc0
          have bc0 := bc1
          clear bc1
          obtain ⟨w26, hW⟩ : ∃ W, w19.drewN m25 = W := ⟨_, rfl⟩
          rw [hW] at O27 O28 bc bc0 hz ⊢
          clear hW
          clear O28
          go_wp2
          go_ret
          exact ⟨rfl, bc⟩
end Go.Proofs.Ytkikhgmglacflaa

