/- The walk of the law FnExactPowerTime. -/
import Derived.Test.YtjnipbopimpggaaCel6
import Derived.Test.YtjnipbopimpggaaStn2
import Derived.Test.YtjnipbopimpggaaUsrFrame
namespace Go.Proofs.Ytjnipbopimpggaa
open Go.RowKit
set_option linter.unusedVariables false
set_option maxHeartbeats 3200000 in
set_option maxRecDepth 100000 in
theorem fnExactPowerTime_walk (a0 : Option Addr) (len0 cap0 : Nat) (z0 : Nat → Usr) (k1 : Int) (w : World) (h0 : UsrsIn w a0 len0 cap0 z0) (hk1 : (Lit.int .i64 k1).wf = true) :
    Calls Try.prog 6 #[.slice a0 len0 cap0, .int .i64 k1] w fun e w' => e = .returned (.bool true) ∧ Below w.heap.size w w' := by
  unfold UsrsIn at h0
  obtain ⟨hr0, hl0, hs0⟩ := h0
  unfold maxLen at hl0 hs0
  have HS0 := Lib.hid hr0
  have HW0 := Lib.hid hs0
  clear hr0 hs0
  have bc : Below w.heap.size w w := Below.refl _ _
  have hsz := szStationS_any (.slice a0 len0 cap0) len0 z0 w HS0.out (by omega) (fun i hi => by have := HW0.out i hi; omega)
  go_enter Try.func6, Try.ntmps6
  go_wp2_with fail
  refine hsz.mono ?_
  rintro e w0 ⟨Z, rfl, hZ, nb0⟩
  clear hsz HW0
  have bd := nb0
  clear bc
  have bc := bd
  clear bd nb0
  by_cases hZ0 : Z < 0
  · clear hZ
    go_wp2
    go_ret
    exact ⟨rfl, bc⟩
  obtain ⟨hn0, hf0⟩ := hZ (by omega)
  clear hZ
  have HT0 := Lib.hid (fun v w hS => toStationS_any v len0 z0 w hS hn0)
  have hp := (fun v0 w r0 => sTime_any v0 len0 z0 k1 w r0 hn0 hf0)
  have hq := (fun v0 w r0 => iTime_any v0 len0 z0 k1 w r0 hn0 hf0)
  obtain ⟨X0, hX0⟩ : ∃ X, tmV len0 z0 k1 = X := ⟨_, rfl⟩
  rw [hX0] at hp hq
  clear hX0
  have HP := Lib.hid hp
  have HQ := Lib.hid hq
  clear hp hq hf0
  go_wp2_with fail
  refine (HT0.out _ _ (HS0.out.below bc)).mono ?_
  rintro e w1 ⟨v3, rfl, O4, nb2⟩
  have hxx := bc.size
  have hyy := nb2.size
  have bd := below_then bc (Nat.le_refl _) nb2
  clear bc
  have bc := bd
  clear bd
  have hlv3 : Hid (∀ k, Value.ownBlock v3 = some k → w0.heap.size ≤ k) := Lib.hid (fun k hk => (O4.lt k hk).1)
  have huv3 : Hid (∀ k, Value.ownBlock v3 = some k → k < w1.heap.size) := Lib.hid (fun k hk => (O4.lt k hk).2)
  have hxv3 : Hid (w.heap.size ≤ w0.heap.size) := Lib.hid hxx
  have hov3' : Hid (w0.heap.size ≤ w1.heap.size) := Lib.hid hyy
  clear hxx hyy
  obtain ⟨Dv3, hD⟩ : ∃ D, w1.heap.size = D := ⟨_, rfl⟩
  have hzz : Hid (Dv3 ≤ w1.heap.size) := Lib.hid (Nat.le_of_eq hD.symm)
  rw [hD] at huv3 hov3'
  clear hD
  obtain ⟨Cv3, hC⟩ : ∃ C, w0.heap.size = C := ⟨_, rfl⟩
  rw [hC] at O4 hlv3 hxv3 hov3'
  clear hC
  clear nb2
  go_wp2_with fail
  refine (HP.out _ _ O4.stationsC).mono ?_
  rintro e w5 ⟨rfl, nb6⟩
  have O7 := O4.below nb6
  clear O4
  have bd := below_then bc (Nat.le_refl _) nb6
  clear bc
  have bc := bd
  clear bd
  have hzd := Lib.hid (Nat.le_trans hzz.out nb6.size)
  clear hzz
  have hzz := hzd
  clear hzd
  clear nb6
  clear O7
  go_wp2_with fail
  refine (HT0.out _ _ (HS0.out.below bc)).mono ?_
  rintro e w8 ⟨v10, rfl, O11, nb9⟩
  have hxx := bc.size
  have hyy := nb9.size
  have bd := below_then bc (Nat.le_refl _) nb9
  clear bc
  have bc := bd
  clear bd
  have hlv10 : Hid (∀ k, Value.ownBlock v10 = some k → w5.heap.size ≤ k) := Lib.hid (fun k hk => (O11.lt k hk).1)
  have huv10 : Hid (∀ k, Value.ownBlock v10 = some k → k < w8.heap.size) := Lib.hid (fun k hk => (O11.lt k hk).2)
  have hxv10 : Hid (w.heap.size ≤ w5.heap.size) := Lib.hid hxx
  have hov10 : Hid (Dv3 ≤ w5.heap.size) := hzz
  have hov10' : Hid (w5.heap.size ≤ w8.heap.size) := Lib.hid hyy
  clear hxx hyy hzz
  obtain ⟨Dv10, hD⟩ : ∃ D, w8.heap.size = D := ⟨_, rfl⟩
  have hzz : Hid (Dv10 ≤ w8.heap.size) := Lib.hid (Nat.le_of_eq hD.symm)
  rw [hD] at huv10 hov10'
  clear hD
  obtain ⟨Cv10, hC⟩ : ∃ C, w5.heap.size = C := ⟨_, rfl⟩
  rw [hC] at O11 hlv10 hxv10 hov10' hov10
  clear hC
  clear nb9
  go_wp2_with fail
  refine (HQ.out _ _ O11.stationsC).mono ?_
  rintro e w12 ⟨rfl, nb13⟩
  have O14 := O11.below nb13
  clear O11
  have bd := below_then bc (Nat.le_refl _) nb13
  clear bc
  have bc := bd
  clear bd
  have hzd := Lib.hid (Nat.le_trans hzz.out nb13.size)
  clear hzz
  have hzz := hzd
  clear hzd
  clear nb13
  go_wp2_with fail
  refine (HT0.out _ _ (HS0.out.below bc)).mono ?_
  rintro e w15 ⟨v17, rfl, O18, nb16⟩
  have O19 := O14.below nb16
  clear O14
  have hxx := bc.size
  have hyy := nb16.size
  have bd := below_then bc (Nat.le_refl _) nb16
  clear bc
  have bc := bd
  clear bd
  have hlv17 : Hid (∀ k, Value.ownBlock v17 = some k → w12.heap.size ≤ k) := Lib.hid (fun k hk => (O18.lt k hk).1)
  have huv17 : Hid (∀ k, Value.ownBlock v17 = some k → k < w15.heap.size) := Lib.hid (fun k hk => (O18.lt k hk).2)
  have hxv17 : Hid (w.heap.size ≤ w12.heap.size) := Lib.hid hxx
  have hov17 : Hid (Dv10 ≤ w12.heap.size) := hzz
  have hov17' : Hid (w12.heap.size ≤ w15.heap.size) := Lib.hid hyy
  clear hxx hyy hzz
  obtain ⟨Dv17, hD⟩ : ∃ D, w15.heap.size = D := ⟨_, rfl⟩
  have hzz : Hid (Dv17 ≤ w15.heap.size) := Lib.hid (Nat.le_of_eq hD.symm)
  rw [hD] at huv17 hov17'
  clear hD
  obtain ⟨Cv17, hC⟩ : ∃ C, w12.heap.size = C := ⟨_, rfl⟩
  rw [hC] at O18 hlv17 hxv17 hov17' hov17
  clear hC
  clear nb16
  go_wp2_with fail
  refine (eqStationS_same v10 v17 len0 z0 _ O19.stations O18.stations (by omega)).mono ?_
  rintro e w20 ⟨rfl, nb21⟩
  have O22 := O19.below nb21
  clear O19
  have O23 := O18.below nb21
  clear O18
  have bd := below_then bc (Nat.le_refl _) nb21
  clear bc
  have bc := bd
  clear bd
  have hzd := Lib.hid (Nat.le_trans hzz.out nb21.size)
  clear hzz
  have hzz := hzd
  clear hzd
  clear nb21
  clear O23
  clear O22
  go_wp2
  go_ret
  exact ⟨rfl, bc⟩
end Go.Proofs.Ytjnipbopimpggaa
