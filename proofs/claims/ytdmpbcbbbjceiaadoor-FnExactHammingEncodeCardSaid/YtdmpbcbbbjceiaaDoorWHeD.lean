/- The walk of the law FnExactHammingEncode. -/
import Derived.Test.YtdmpbcbbbjceiaaDoorFrm20
namespace Go.Proofs.YtdmpbcbbbjceiaaDoor
open Go.RowKit
set_option linter.unusedVariables false
set_option maxRecDepth 100000 in
theorem fnExactHammingEncode_walk (z0 : ByteArray) (w : World) (hz0 : z0.size ≤ maxLen) (hp : PlacesAt w) (h0 : 0 < w.heap.size) :
    Calls Tryd.prog 3 #[.string z0] w fun e w' => e = .returned (.bool true) ∧ Below w.heap.size w w' := by
  unfold maxLen at hz0
  by_cases hlz0 : 1048576 < z0.size
  · go_enter Tryd.func3, Tryd.ntmps3
    go_wp2
    go_ret
    exact ⟨rfl, Below.refl _ _⟩
  · skip
    have hs := fun w => sHe_any z0 w (by omega)
    have hi := fun w1 (b1 : Below w.heap.size w w1) => iHe_any z0 w1 (by omega) (PlacesAt.below hp h0 b1) (Nat.lt_of_lt_of_le h0 b1.size)
    obtain ⟨X, hX⟩ : ∃ X, (heAns z0).1 = X := ⟨_, rfl⟩
    obtain ⟨ok, hok⟩ : ∃ ok, (heAns z0).2 = ok := ⟨_, rfl⟩
    rw [hX, hok] at hs; simp only [hX, hok] at hi
    clear hX hok
    have HS := Lib.hid hs
    have HI := Lib.hid hi
    clear hs hi hp h0
    go_enter Tryd.func3, Tryd.ntmps3
    go_wp2_with fail
    refine (HS.out _).mono ?_
    rintro e w1 ⟨rfl, b1⟩
    go_wp2_with fail
    refine (HI.out _ b1).mono ?_
    rintro e w2 ⟨rfl, b2'⟩
    have b2 := below_then b1 (Nat.le_refl _) b2'
    clear b1 b2'
    cases ok
    all_goals
      go_wp2
      go_ret
      exact ⟨rfl, b2⟩
end Go.Proofs.YtdmpbcbbbjceiaaDoor
