/- The walk of the law FnExactFrameOf. -/
import Derived.Test.YtdmpbcbbbjceiabFrm7
namespace Go.Proofs.Ytdmpbcbbbjceiab
open Go.RowKit
set_option linter.unusedVariables false
set_option maxRecDepth 100000 in
theorem fnExactFrameOf_walk (z0 : ByteArray) (w : World) (hz0 : z0.size ≤ maxLen) :
    Calls Try.prog 3 #[.string z0] w fun e w' => e = .returned (.bool true) ∧ Below w.heap.size w w' := by
  unfold maxLen at hz0
  by_cases hlz0 : 1048576 < z0.size
  · go_enter Try.func3, Try.ntmps3
    go_wp2
    go_ret
    exact ⟨rfl, Below.refl _ _⟩
  · skip
    have hs := fun w => sFrame_any z0 w (by omega)
    have hi := fun w => iFrame_any z0 w (by omega)
    obtain ⟨X, hX⟩ : ∃ X, (frmAns z0).1 = X := ⟨_, rfl⟩
    obtain ⟨ok, hok⟩ : ∃ ok, (frmAns z0).2 = ok := ⟨_, rfl⟩
    rw [hX, hok] at hs hi
    clear hX hok
    have HS := Lib.hid hs
    have HI := Lib.hid hi
    clear hs hi
    go_enter Try.func3, Try.ntmps3
    go_wp2_with fail
    refine (HS.out _).mono ?_
    rintro e w1 ⟨rfl, b1⟩
    go_wp2_with fail
    refine (HI.out _).mono ?_
    rintro e w2 ⟨rfl, b2'⟩
    have b2 := below_then b1 (Nat.le_refl _) b2'
    clear b1 b2'
    cases ok
    all_goals
      go_wp2
      go_ret
      exact ⟨rfl, b2⟩
end Go.Proofs.Ytdmpbcbbbjceiab

