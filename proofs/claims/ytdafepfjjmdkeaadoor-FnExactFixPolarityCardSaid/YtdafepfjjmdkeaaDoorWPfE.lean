/- The walk of the law FnExactFixPolarity. -/
import Derived.Test.YtdafepfjjmdkeaaDoorPolI
namespace Go.Proofs.YtdafepfjjmdkeaaDoor
open Go.RowKit
set_option linter.unusedVariables false
set_option maxRecDepth 100000 in
theorem fnExactFixPolarity_walk (z0 : ByteArray) (w : World) (hz0 : z0.size ≤ maxLen) (hd : DoorAt w) :
    Calls Tryd.prog 5 #[.string z0] w fun e w' => e = .returned (.bool true) ∧ Below w.heap.size w w' := by
  unfold maxLen at hz0
  by_cases hlz0 : 1048576 < z0.size
  · go_enter Tryd.func5, Tryd.ntmps5
    go_wp2
    go_ret
    exact ⟨rfl, Below.refl _ _⟩
  · have HS := Lib.hid (fun w => sPol_any z0 w (by omega))
    have HI := Lib.hid (fun w1 (b1 : Below w.heap.size w w1) => iPol_any z0 w1 (by omega) (hd.below b1 hd.lt))
    obtain ⟨X, hX⟩ : ∃ X, (polAns z0).1 = X := ⟨_, rfl⟩
    obtain ⟨ok, hok⟩ : ∃ ok, (polAns z0).2 = ok := ⟨_, rfl⟩
    simp only [hX, hok] at HS HI
    clear hX hok hd
    go_enter Tryd.func5, Tryd.ntmps5
    go_wp2_with fail
    refine (HS.out _).mono ?_
    rintro e w1 ⟨rfl, b1⟩
    go_wp2_with fail
    refine (HI.out _ b1).mono ?_
    rintro e w2 ⟨rfl, b2'⟩
    have b2 := below_then b1 (Nat.le_refl _) b2'
    clear b1 b2'
    cases ok
    all_goals
      go_wp2
      go_ret
      exact ⟨rfl, b2⟩
end Go.Proofs.YtdafepfjjmdkeaaDoor
