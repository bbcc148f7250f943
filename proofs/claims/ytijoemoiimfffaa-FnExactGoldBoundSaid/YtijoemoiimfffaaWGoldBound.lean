/- The walk of the law FnExactGoldBound. -/
import Derived.Test.YtijoemoiimfffaaGold
namespace Go.Proofs.Ytijoemoiimfffaa
open Go.RowKit
set_option linter.unusedVariables false
set_option maxRecDepth 100000 in
theorem fnExactGoldBound_walk (k0 : Int) (w : World) (_ : (Lit.int .i64 k0).wf = true) :
    Calls Try.prog 3 #[.int .i64 k0] w fun e w' => e = .returned (.bool true) ∧ Below w.heap.size w w' := by
  have hs := fun w => sGold_any k0 w 
  have hi := fun w => iGold_any k0 w 
  obtain ⟨X, hX⟩ : ∃ X, goldA k0 = X := ⟨_, rfl⟩
  rw [hX] at hs hi
  clear hX
  have HS := Lib.hid hs
  have HI := Lib.hid hi
  clear hs hi
  go_enter Try.func3, Try.ntmps3
  go_wp2_with fail
  refine (HS.out _).mono ?_
  rintro e w1 ⟨rfl, b1⟩
  go_wp2_with fail
  refine (HI.out _).mono ?_
  rintro e w2 ⟨rfl, b2'⟩
  have b2 := below_then b1 (Nat.le_refl _) b2'
  clear b1 b2'
  go_wp2
  go_ret
  exact ⟨rfl, b2⟩
end Go.Proofs.Ytijoemoiimfffaa

