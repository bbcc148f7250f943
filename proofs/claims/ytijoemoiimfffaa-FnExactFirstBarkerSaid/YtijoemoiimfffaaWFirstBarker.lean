/- The walk of the law FnExactFirstBarker. -/
import Derived.Test.YtijoemoiimfffaaFam2
namespace Go.Proofs.Ytijoemoiimfffaa
open Go.RowKit
set_option linter.unusedVariables false
set_option maxRecDepth 100000 in
theorem fnExactFirstBarker_walk (k0 : Int) (w : World) (_ : (Lit.int .i64 k0).wf = true) :
    Calls Try.prog 12 #[.int .i64 k0] w fun e w' => e = .returned (.bool true) ∧ Below w.heap.size w w' := by
  have hs := fun w => sFirstBark_any k0 w 
  have hi := fun w => iFirstBark_any k0 w 
  obtain ⟨X, hX⟩ : ∃ X, (firstBark k0).1 = X := ⟨_, rfl⟩
  obtain ⟨ok, hok⟩ : ∃ ok, (firstBark k0).2 = ok := ⟨_, rfl⟩
  rw [hX, hok] at hs hi
  clear hX hok
  have HS := Lib.hid hs
  have HI := Lib.hid hi
  clear hs hi
  go_enter Try.func12, Try.ntmps12
  go_wp2_with fail
  refine (HS.out _).mono ?_
  rintro e w1 ⟨rfl, b1⟩
  go_wp2_with fail
  refine (HI.out _).mono ?_
  rintro e w2 ⟨rfl, b2'⟩
  have b2 := below_then b1 (Nat.le_refl _) b2'
  clear b1 b2'
  cases ok
  all_goals
    go_wp2
    go_ret
    exact ⟨rfl, b2⟩
end Go.Proofs.Ytijoemoiimfffaa

