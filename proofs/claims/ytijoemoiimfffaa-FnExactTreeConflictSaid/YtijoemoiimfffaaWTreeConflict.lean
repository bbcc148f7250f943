/- The walk of the law FnExactTreeConflict. -/
import Derived.Test.YtijoemoiimfffaaFam1
namespace Go.Proofs.Ytijoemoiimfffaa
open Go.RowKit
set_option linter.unusedVariables false
set_option maxRecDepth 100000 in
theorem fnExactTreeConflict_walk (z0 : ByteArray) (z1 : ByteArray) (w : World) (hz0 : z0.size ≤ maxLen) (hz1 : z1.size ≤ maxLen) :
    Calls Try.prog 8 #[.string z0, .string z1] w fun e w' => e = .returned (.bool true) ∧ Below w.heap.size w w' := by
  unfold maxLen at hz0
  unfold maxLen at hz1
  by_cases hlz0 : 1048576 < z0.size
  · go_enter Try.func8, Try.ntmps8
    go_wp2
    go_ret
    exact ⟨rfl, Below.refl _ _⟩
  · skip
    by_cases hlz1 : 1048576 < z1.size
    · go_enter Try.func8, Try.ntmps8
      go_wp2
      go_ret
      exact ⟨rfl, Below.refl _ _⟩
    · skip
      have hs := fun w => sConfB z0 z1 w (by omega) (by omega)
      have hi := fun w => iConfB z0 z1 w (by omega) (by omega)
      obtain ⟨X, hX⟩ : ∃ X, confB z0 z1 = X := ⟨_, rfl⟩
      rw [hX] at hs hi
      clear hX
      have HS := Lib.hid hs
      have HI := Lib.hid hi
      clear hs hi
      go_enter Try.func8, Try.ntmps8
      go_wp2_with fail
      refine (HS.out _).mono ?_
      rintro e w1 ⟨rfl, b1⟩
      go_wp2_with fail
      refine (HI.out _).mono ?_
      rintro e w2 ⟨rfl, b2'⟩
      have b2 := below_then b1 (Nat.le_refl _) b2'
      clear b1 b2'
      cases X
      all_goals
        go_wp2
        go_ret
        exact ⟨rfl, b2⟩
end Go.Proofs.Ytijoemoiimfffaa

