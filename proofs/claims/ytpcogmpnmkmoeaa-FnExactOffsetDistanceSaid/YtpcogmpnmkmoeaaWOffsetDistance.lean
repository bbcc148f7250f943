/- The walk of the law FnExactOffsetDistance. -/
import Derived.Test.YtpcogmpnmkmoeaaPil3
import Derived.Deep.RegionHeld3
namespace Go.Proofs.Ytpcogmpnmkmoeaa
open Go.RowKit
set_option linter.unusedVariables false
set_option maxHeartbeats 1600000 in
set_option maxRecDepth 100000 in
theorem fnExactOffsetDistance_walk (c : ByteArray) (g : Int) (k0 : Int) (k1 : Int) (w : World) (hc : c.size ≤ maxLen) (_ : (Lit.int .i64 k0).wf = true) (_ : (Lit.int .i64 k1).wf = true) :
    Calls Try.prog 5 #[.agg #[.string c, .int .i64 g], .int .i64 k0, .int .i64 k1] w fun e w' => e = .returned (.bool true) ∧ Below w.heap.size w w' := by
  unfold maxLen at hc
  have HS := Lib.hid (fun w => szPilot_any c g 1048576 w (by omega) (by omega) (by omega))
  have HT := Lib.hid (fun w => toPilot_any c g w)
  have hbd := szP_bd c
  obtain ⟨Z, hZ⟩ : ∃ Z, szP c 1048576 = Z := ⟨_, rfl⟩
  rw [hZ] at HS hbd
  clear hZ
  have b0 := (Below.refl w.heap.size w).alloc (Nat.le_refl _) (.cells #[.string c, .int .i64 g] 23)
  have u0 := PilAt.new w 23 c g
  by_cases hz : Z < 0
  · skip
    clear hbd u0
    go_enter Try.func5, Try.ntmps5
    go_wp2_with fail
    refine (HS.out _).mono ?_
    rintro e w1 ⟨rfl, n1⟩
    have c1 := below_then b0 (Nat.le_refl _) n1
    clear n1 b0
    go_wp2
    go_ret
    exact ⟨rfl, c1⟩
  have h1 := hbd hz
  have hp := (fun w => sDist_any c g k0 k1 w h1)
  have hq := (fun w => iDist_any c g k0 k1 w h1)
  obtain ⟨X0, hX0⟩ : ∃ X, dsAns c g k0 k1 = X := ⟨_, rfl⟩
  rw [hX0] at hp hq
  clear hX0
  have HP := Lib.hid hp
  have HQ := Lib.hid hq
  clear hp hq hbd
  go_enter Try.func5, Try.ntmps5
  go_wp2_with fail
  refine (HS.out _).mono ?_
  rintro e w1 ⟨rfl, n1⟩
  have b1 := below_then b0 (Nat.le_refl _) n1
  have u1 := u0.below n1 (by simp)
  clear n1 b0 u0
  obtain ⟨x0, x1, x2⟩ := id u1
  go_wp2_with fail
  clear x0 x1 x2
  refine (HT.out _).mono ?_
  rintro e w2 ⟨rfl, n2⟩
  have b2 := below_then b1 (Nat.le_refl _) n2
  have u2 := u1.below n2 u1.2.2
  clear n2 b1 u1
  obtain ⟨x0, x1, x2⟩ := id u2
  go_wp2_with fail
  clear x0 x1 x2
  refine (HP.out _).mono ?_
  rintro e w3 ⟨rfl, n3⟩
  have b3 := below_then b2 (Nat.le_refl _) n3
  have u3 := u2.below n3 u2.2.2
  clear n3 b2 u2
  obtain ⟨x0, x1, x2⟩ := id u3
  go_wp2_with fail
  clear x0 x1 x2
  refine (HT.out _).mono ?_
  rintro e w4 ⟨rfl, n4⟩
  have b4 := below_then b3 (Nat.le_refl _) n4
  have u4 := u3.below n4 u3.2.2
  clear n4 b3 u3
  obtain ⟨x0, x1, x2⟩ := id u4
  go_wp2_with fail
  clear x0 x1 x2
  refine (HQ.out _).mono ?_
  rintro e w5 ⟨rfl, n5⟩
  have b5 := below_then b4 (Nat.le_refl _) n5
  have u5 := u4.below n5 u4.2.2
  clear n5 b4 u4
  go_wp2
  go_ret
  exact ⟨rfl, b5⟩
end Go.Proofs.Ytpcogmpnmkmoeaa
