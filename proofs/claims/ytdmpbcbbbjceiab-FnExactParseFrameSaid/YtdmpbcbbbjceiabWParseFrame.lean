/- The walk of the law FnExactParseFrame. -/
import Derived.Test.YtdmpbcbbbjceiabFrm11
namespace Go.Proofs.Ytdmpbcbbbjceiab
open Go.RowKit
set_option linter.unusedVariables false
set_option maxRecDepth 100000 in
theorem fnExactParseFrame_walk (z0 : ByteArray) (k0 : Int) (w : World) (hz0 : z0.size ≤ maxLen) (_ : (Lit.int .i64 k0).wf = true) :
    Calls Try.prog 5 #[.string z0, .int .i64 k0] w fun e w' => e = .returned (.bool true) ∧ Below w.heap.size w w' := by
  unfold maxLen at hz0
  by_cases hlz0 : 1048576 < z0.size
  · go_enter Try.func5, Try.ntmps5
    go_wp2
    go_ret
    exact ⟨rfl, Below.refl _ _⟩
  · skip
    have hs := fun w => sParse_any z0 k0 w (by omega)
    have hi := fun w => iParse_any z0 k0 w (by omega)
    obtain ⟨X, hX⟩ : ∃ X, (parAns z0 k0).1 = X := ⟨_, rfl⟩
    obtain ⟨I, hI⟩ : ∃ I, (parAns z0 k0).2.1 = I := ⟨_, rfl⟩
    obtain ⟨ok, hok⟩ : ∃ ok, (parAns z0 k0).2.2 = ok := ⟨_, rfl⟩
    rw [hX, hI, hok] at hs hi
    clear hX hI hok
    have HS := Lib.hid hs
    have HI := Lib.hid hi
    clear hs hi
    go_enter Try.func5, Try.ntmps5
    go_wp2_with fail
    refine (HS.out _).mono ?_
    rintro e w1 ⟨rfl, b1⟩
    go_wp2_with fail
    refine (HI.out _).mono ?_
    rintro e w2 ⟨rfl, b2'⟩
    have b2 := below_then b1 (Nat.le_refl _) b2'
    clear b1 b2'
    cases ok
    all_goals
      go_wp2
      go_ret
      exact ⟨rfl, b2⟩
end Go.Proofs.Ytdmpbcbbbjceiab
