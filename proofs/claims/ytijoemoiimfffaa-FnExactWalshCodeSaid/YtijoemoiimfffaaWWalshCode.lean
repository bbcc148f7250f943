/- The walk of the law FnExactWalshCode. -/
import Derived.Test.YtijoemoiimfffaaFam3
namespace Go.Proofs.Ytijoemoiimfffaa
open Go.RowKit
set_option linter.unusedVariables false
set_option maxRecDepth 100000 in
theorem fnExactWalshCode_walk (k0 : Int) (k1 : Int) (w : World) (_ : (Lit.int .i64 k0).wf = true) (_ : (Lit.int .i64 k1).wf = true) :
    Calls Try.prog 4 #[.int .i64 k0, .int .i64 k1] w fun e w' => e = .returned (.bool true) ∧ Below w.heap.size w w' := by
  have hs := fun w => sWalsh_any k0 k1 w 
  have hi := fun w => iWalsh_any k0 k1 w 
  obtain ⟨X, hX⟩ : ∃ X, (walshAns k0 k1).1 = X := ⟨_, rfl⟩
  obtain ⟨ok, hok⟩ : ∃ ok, (walshAns k0 k1).2 = ok := ⟨_, rfl⟩
  rw [hX, hok] at hs hi
  clear hX hok
  have HS := Lib.hid hs
  have HI := Lib.hid hi
  clear hs hi
  go_enter Try.func4, Try.ntmps4
  go_wp2_with fail
  refine (HS.out _).mono ?_
  rintro e w1 ⟨rfl, b1⟩
  go_wp2_with fail
  refine (HI.out _).mono ?_
  rintro e w2 ⟨rfl, b2'⟩
  have b2 := below_then b1 (Nat.le_refl _) b2'
  clear b1 b2'
  cases ok
  all_goals
    go_wp2
    go_ret
    exact ⟨rfl, b2⟩
end Go.Proofs.Ytijoemoiimfffaa

