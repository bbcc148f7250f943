/- The walk of the law FnExactBestOffset. -/
import Derived.Test.YtpcogmpnmkmoeabPil12
import Derived.Test.YtpcogmpnmkmoeabStrFrame
import Derived.Deep.RegionHeld3
namespace Go.Proofs.Ytpcogmpnmkmoeab
open Go.RowKit
set_option linter.unusedVariables false
set_option maxHeartbeats 1600000 in
set_option maxRecDepth 100000 in
theorem fnExactBestOffset_walk (a0 : Option Addr) (len0 cap0 : Nat) (z0 : Nat → Int) (c : ByteArray) (g : Int) (w : World) (h0 : IntsIn w a0 len0 cap0 z0) (hc : c.size ≤ maxLen) :
    Calls Try.prog 3 #[.slice a0 len0 cap0, .agg #[.string c, .int .i64 g]] w fun e w' => e = .returned (.bool true) ∧ Below w.heap.size w w' := by
  unfold maxLen at hc
  obtain ⟨hl0, hz0⟩ := h0
  unfold maxLen at hl0
  have HS := Lib.hid (fun w => szPilot_any c g 1048576 w (by omega) (by omega) (by omega))
  have HT := Lib.hid (fun w => toPilot_any c g w)
  have hbd := szP_bd c
  obtain ⟨Z, hZ⟩ : ∃ Z, szP c 1048576 = Z := ⟨_, rfl⟩
  rw [hZ] at HS hbd
  clear hZ
  have b0 := (Below.refl w.heap.size w).alloc (Nat.le_refl _) (.cells #[.string c, .int .i64 g] 24)
  have u0 := PilAt.new w 24 c g
  by_cases hg0 : 1048576 < len0
  · skip
    clear hz0 hbd u0
    go_enter Try.func3, Try.ntmps3
    go_wp2
    go_ret
    exact ⟨rfl, b0⟩
  have HS0 : Hid (IntsR w (.slice a0 len0 cap0) len0 z0) := Lib.hid ⟨a0, cap0, rfl, fun i hi => (hz0 i hi).2⟩
  have HT0 := Lib.hid (fun v w hS => toIntS_any v len0 z0 w hS (by omega))
  have hn0 : len0 ≤ 1048576 := by omega
  have lg0 : ¬ ((1048576 : Int) < (len0 : Int)) := by omega
  clear hz0
  by_cases hz : Z < 0
  · skip
    clear hbd u0
    go_enter Try.func3, Try.ntmps3
    go_wp2_with fail
    refine (HS.out _).mono ?_
    rintro e w1 ⟨rfl, n1⟩
    have c1 := below_then b0 (Nat.le_refl _) n1
    clear n1 b0
    go_wp2
    go_ret
    exact ⟨rfl, c1⟩
  have h1 := hbd hz
  have hp := (fun v w r => sBest_any v len0 z0 c g w r hn0 h1)
  have hq := (fun v w r => iBest_any v len0 z0 c g w r hn0 h1)
  obtain ⟨X0, hX0⟩ : ∃ X, boAns len0 z0 c g = X := ⟨_, rfl⟩
  rw [hX0] at hp hq
  clear hX0
  have HP := Lib.hid hp
  have HQ := Lib.hid hq
  clear hp hq hbd
  go_enter Try.func3, Try.ntmps3
  go_wp2_with fail
  refine (HS.out _).mono ?_
  rintro e w1 ⟨rfl, n1⟩
  have b1 := below_then b0 (Nat.le_refl _) n1
  have u1 := u0.below n1 (by simp)
  clear n1 b0 u0
  obtain ⟨x0, x1, x2⟩ := id u1
  go_wp2_with fail
  have r0 := Below.refl w1.heap.size w1
  go_region_held3 (fun wx => Below w1.heap.size w1 wx ∧ wx.cell? ⟨w.heap.size, 0, none⟩ = some (.string c) ∧ wx.cell? ⟨w.heap.size, 1, none⟩ = some (.int .i64 g)) (first | exact ⟨k3, y3.1, y3.2.1⟩ | exact ⟨k2, y2.1, y2.2.1⟩ | exact ⟨k1, y1.1, y1.2.1⟩ | exact ⟨r0.drew, x0, x1⟩) (first
    | (go_at_call 15; refine (HT0.out _ _ (HS0.out.below b1.drew)).mono ?_; rintro e w91 ⟨v0, rfl, O0, hB⟩; have k1 := below_then r0.drew (Nat.le_refl _) hB; have y1 := u1.below k1 x2; clear hB)
    | (go_at_call 16; refine (HT.out _).mono ?_; rintro e w92 ⟨rfl, hB⟩; have k2 := below_then k1 (Nat.le_refl _) hB; have y2 := u1.below k2 x2; have O1 := O0.below hB; clear hB)
    | (go_at_call 14; refine (HP.out _ _ O1.ints).mono ?_; rintro e w2 ⟨rfl, hB⟩; have k3 := below_then k2 (Nat.le_refl _) hB; have y3 := u1.below k3 x2; clear hB))
  have b2 := below_then b1 (Nat.le_refl _) k3
  have u2 := y3
  clear x0 x1 x2 r0 k1 k2 k3 y1 y2 y3 O0 O1 b1 u1
  obtain ⟨x0, x1, x2⟩ := id u2
  go_wp2_with fail
  clear x0 x1 x2
  refine (HT0.out _ _ (HS0.out.below b2)).mono ?_
  rintro e w3 ⟨v1, rfl, P1, n3⟩
  have b3 := below_then b2 (Nat.le_refl _) n3
  have u3 := u2.below n3 u2.2.2
  clear n3 b2 u2
  obtain ⟨x0, x1, x2⟩ := id u3
  go_wp2_with fail
  clear x0 x1 x2
  refine (HT.out _).mono ?_
  rintro e w4 ⟨rfl, n4⟩
  have P1' := P1.below n4
  clear P1
  have P1 := P1'
  clear P1'
  have b4 := below_then b3 (Nat.le_refl _) n4
  have u4 := u3.below n4 u3.2.2
  clear n4 b3 u3
  obtain ⟨x0, x1, x2⟩ := id u4
  go_wp2_with fail
  clear x0 x1 x2
  refine (HQ.out _ _ P1.intsC).mono ?_
  rintro e w5 ⟨rfl, n5⟩
  have P1' := P1.below n5
  clear P1
  have P1 := P1'
  clear P1'
  have b5 := below_then b4 (Nat.le_refl _) n5
  have u5 := u4.below n5 u4.2.2
  clear n5 b4 u4
  obtain ⟨x0, x1, x2⟩ := id u5
  go_wp2_with fail
  clear x0 x1 x2
  refine (HT0.out _ _ (HS0.out.below b5)).mono ?_
  rintro e w6 ⟨v2, rfl, P2, n6⟩
  have P1' := P1.below n6
  clear P1
  have P1 := P1'
  clear P1'
  have b6 := below_then b5 (Nat.le_refl _) n6
  have u6 := u5.below n6 u5.2.2
  clear n6 b5 u5
  go_wp2_with fail
  refine (eqIntS_big v1 v2 _ _ len0 z0 _ P1 P2 (by omega)).mono ?_
  rintro e w' ⟨rfl, m9, rfl⟩
  have bz := below_drewN b6 m9
  go_wp2
  go_ret
  exact ⟨rfl, bz⟩
end Go.Proofs.Ytpcogmpnmkmoeab
