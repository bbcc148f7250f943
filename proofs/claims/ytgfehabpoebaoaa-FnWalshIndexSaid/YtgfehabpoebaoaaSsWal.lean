/- ssWalsh. -/
import Derived.Test.YtgfehabpoebaoaaFam3
namespace Go.Proofs.Ytgfehabpoebaoaa
open Go.RowKit
set_option linter.unusedVariables false
set_option maxRecDepth 100000
theorem ssWal_any (o i : Int) (w : World) :
    Calls Try.prog 30 #[.int .i64 o, .int .i64 i] w fun e w' => e = .returned (.string (walshAns o i).1) ∧ Below w.heap.size w w' := by
  have hi := fun w => iWalsh_any o i w
  obtain ⟨A, hA⟩ : ∃ A, walshAns o i = A := ⟨_, rfl⟩
  rw [hA] at hi ⊢
  have HI := Lib.hid hi
  clear hi hA
  go_enter Try.func30, Try.ntmps30
  go_wp2_with fail
  refine (HI.out _).mono ?_
  rintro e w1 ⟨rfl, b1⟩
  go_wp2
  go_ret
  exact ⟨rfl, b1⟩
end Go.Proofs.Ytgfehabpoebaoaa
