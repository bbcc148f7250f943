/- The walk of the law FnExactHopsValid. -/
import Derived.Test.YtbllmgdnhjdphaaHop0
import Derived.Test.YtbllmgdnhjdphaaStrFrame
namespace Go.Proofs.Ytbllmgdnhjdphaa
open Go.RowKit
set_option linter.unusedVariables false
set_option maxHeartbeats 3200000 in
set_option maxRecDepth 100000 in
theorem fnExactHopsValid_walk (a0 : Option Addr) (len0 cap0 : Nat) (z0 : Nat → Int) (k1 : Int) (w : World) (h0 : IntsIn w a0 len0 cap0 z0) (hk1 : (Lit.int .i64 k1).wf = true) :
    Calls Try.prog 3 #[.slice a0 len0 cap0, .int .i64 k1] w fun e w' => e = .returned (.bool true) ∧ Below w.heap.size w w' := by
  obtain ⟨hl0, hz0⟩ := h0
  unfold maxLen at hl0
  have HS0 : Hid (IntsR w (.slice a0 len0 cap0) len0 z0) := Lib.hid ⟨a0, cap0, rfl, fun i hi => (hz0 i hi).2⟩
  clear hz0
  have bc : Below w.heap.size w w := Below.refl _ _
  by_cases hg0 : 1048576 < len0
  · skip
    clear HS0
    go_enter Try.func3, Try.ntmps3
    go_wp2
    go_ret
    exact ⟨rfl, bc⟩
  have lg0 : ¬ ((1048576 : Int) < (len0 : Int)) := by omega
  have hn0 : len0 ≤ 1048576 := by omega
  clear hg0
  have HT0 := Lib.hid (fun v w hS => toIntS_any v len0 z0 w hS hn0)
  have hp := (fun v0 w r0 => sHops_b v0 len0 z0 k1 w r0 hn0)
  have hq := (fun v0 w r0 => iHops_b v0 len0 z0 k1 w r0 hn0)
  obtain ⟨X0, hX0⟩ : ∃ X, hopB len0 z0 k1 = X := ⟨_, rfl⟩
  rw [hX0] at hp hq
  clear hX0
  have HP := Lib.hid hp
  have HQ := Lib.hid hq
  clear hp hq
  cases X0
  all_goals
    go_enter Try.func3, Try.ntmps3
    go_wp2_with fail
    refine (HT0.out _ _ (HS0.out.below bc)).mono ?_
    rintro e w1 ⟨v3, rfl, O4, nb2⟩
    have hxx := bc.size
    have hyy := nb2.size
    have bd := nb2
    clear bc
    have bc := bd
    clear bd
    have hlv3 : Hid (∀ k, Value.ownBlock v3 = some k → w.heap.size ≤ k) := Lib.hid (fun k hk => (O4.lt k hk).1)
    have huv3 : Hid (∀ k, Value.ownBlock v3 = some k → k < w1.heap.size) := Lib.hid (fun k hk => (O4.lt k hk).2)
    have hxv3 : Hid (w.heap.size ≤ w.heap.size) := Lib.hid hxx
    have hov3' : Hid (w.heap.size ≤ w1.heap.size) := Lib.hid hyy
    clear hxx hyy
    obtain ⟨Dv3, hD⟩ : ∃ D, w1.heap.size = D := ⟨_, rfl⟩
    have hzz : Hid (Dv3 ≤ w1.heap.size) := Lib.hid (Nat.le_of_eq hD.symm)
    rw [hD] at huv3 hov3'
    clear hD
    obtain ⟨Cv3, hC⟩ : ∃ C, w.heap.size = C := ⟨_, rfl⟩
    have HC0 := Lib.hid hC
    rw [hC] at O4 hlv3 hxv3 hov3'
    clear hC
    skip
    go_wp2_with fail
    refine (HP.out _ _ O4.ints).mono ?_
    rintro e w5 ⟨rfl, nb6⟩
    have O7 := O4.below nb6
    clear O4
    have bd := below_then bc (Nat.le_refl _) nb6
    clear bc
    have bc := bd
    clear bd
    have hzd := Lib.hid (Nat.le_trans hzz.out nb6.size)
    clear hzz
    have hzz := hzd
    clear hzd
    clear nb6
    clear O7
    go_wp2_with fail
    refine (HT0.out _ _ (HS0.out.below bc)).mono ?_
    rintro e w8 ⟨v10, rfl, O11, nb9⟩
    have hxx := bc.size
    have hyy := nb9.size
    have bd := below_then bc (Nat.le_refl _) nb9
    clear bc
    have bc := bd
    clear bd
    have hlv10 : Hid (∀ k, Value.ownBlock v10 = some k → w5.heap.size ≤ k) := Lib.hid (fun k hk => (O11.lt k hk).1)
    have huv10 : Hid (∀ k, Value.ownBlock v10 = some k → k < w8.heap.size) := Lib.hid (fun k hk => (O11.lt k hk).2)
    have hxv10 : Hid (w.heap.size ≤ w5.heap.size) := Lib.hid hxx
    have hov10 : Hid (Dv3 ≤ w5.heap.size) := hzz
    have hov10' : Hid (w5.heap.size ≤ w8.heap.size) := Lib.hid hyy
    clear hxx hyy hzz
    obtain ⟨Dv10, hD⟩ : ∃ D, w8.heap.size = D := ⟨_, rfl⟩
    have hzz : Hid (Dv10 ≤ w8.heap.size) := Lib.hid (Nat.le_of_eq hD.symm)
    rw [hD] at huv10 hov10'
    clear hD
    obtain ⟨Cv10, hC⟩ : ∃ C, w5.heap.size = C := ⟨_, rfl⟩
    rw [hC] at O11 hlv10 hxv10 hov10' hov10
    clear hC
    clear nb9
    go_wp2_with fail
    refine (HQ.out _ _ O11.ints).mono ?_
    rintro e w12 ⟨rfl, nb13⟩
    have O14 := O11.below nb13
    clear O11
    have bd := below_then bc (Nat.le_refl _) nb13
    clear bc
    have bc := bd
    clear bd
    have hzd := Lib.hid (Nat.le_trans hzz.out nb13.size)
    clear hzz
    have hzz := hzd
    clear hzd
    clear nb13
    go_wp2_with fail
    refine (HT0.out _ _ (HS0.out.below bc)).mono ?_
    rintro e w15 ⟨v17, rfl, O18, nb16⟩
    have O19 := O14.below nb16
    clear O14
    have hxx := bc.size
    have hyy := nb16.size
    have bd := below_then bc (Nat.le_refl _) nb16
    clear bc
    have bc := bd
    clear bd
    have hlv17 : Hid (∀ k, Value.ownBlock v17 = some k → w12.heap.size ≤ k) := Lib.hid (fun k hk => (O18.lt k hk).1)
    have huv17 : Hid (∀ k, Value.ownBlock v17 = some k → k < w15.heap.size) := Lib.hid (fun k hk => (O18.lt k hk).2)
    have hxv17 : Hid (w.heap.size ≤ w12.heap.size) := Lib.hid hxx
    have hov17 : Hid (Dv10 ≤ w12.heap.size) := hzz
    have hov17' : Hid (w12.heap.size ≤ w15.heap.size) := Lib.hid hyy
    clear hxx hyy hzz
    obtain ⟨Dv17, hD⟩ : ∃ D, w15.heap.size = D := ⟨_, rfl⟩
    have hzz : Hid (Dv17 ≤ w15.heap.size) := Lib.hid (Nat.le_of_eq hD.symm)
    rw [hD] at huv17 hov17'
    clear hD
    obtain ⟨Cv17, hC⟩ : ∃ C, w12.heap.size = C := ⟨_, rfl⟩
    rw [hC] at O18 hlv17 hxv17 hov17' hov17
    clear hC
    clear nb16
    go_wp2_with fail
    refine (eqIntS_big v10 v17 _ _ len0 z0 _ O19 O18 (by omega)).mono ?_
    rintro e w' ⟨rfl, m20, rfl⟩
    have O22 := O19.drewN m20
    clear O19
    have O23 := O18.drewN m20
    clear O18
    have bd := below_drewN bc m20
    clear bc
    have bc := bd
    clear bd
    have hzd : Hid (Dv17 ≤ (w15.drewN m20).heap.size) := hzz
    clear hzz
    have hzz := hzd
    clear hzd
    obtain ⟨w21, hW⟩ : ∃ W, w15.drewN m20 = W := ⟨_, rfl⟩
    rw [hW] at O22 O23 bc hzz ⊢
    clear hW
    clear O23
    clear O22
    go_wp2
    go_ret
    exact ⟨rfl, bc⟩
end Go.Proofs.Ytbllmgdnhjdphaa
