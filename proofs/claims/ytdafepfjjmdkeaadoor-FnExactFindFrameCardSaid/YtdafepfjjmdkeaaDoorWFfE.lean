/- The walk of the law FnExactFindFrame. -/
import Derived.Test.YtdafepfjjmdkeaaDoorFndI
namespace Go.Proofs.YtdafepfjjmdkeaaDoor
open Go.RowKit
set_option linter.unusedVariables false
set_option maxRecDepth 100000 in
theorem fnExactFindFrame_walk (z0 : ByteArray) (k : Int) (w : World) (hz0 : z0.size ≤ maxLen) (_ : (Lit.int .i64 k).wf = true) (hd : DoorAt w) :
    Calls Tryd.prog 3 #[.string z0, .int .i64 k] w fun e w' => e = .returned (.bool true) ∧ Below w.heap.size w w' := by
  unfold maxLen at hz0
  by_cases hlz0 : 1048576 < z0.size
  · go_enter Tryd.func3, Tryd.ntmps3
    go_wp2
    go_ret
    exact ⟨rfl, Below.refl _ _⟩
  · have HS := Lib.hid (fun w => sFind_any z0 k w (by omega))
    have HI := Lib.hid (fun w1 (b1 : Below w.heap.size w w1) => iFind_any z0 k w1 (by omega) (hd.below b1 hd.lt))
    obtain ⟨X, hX⟩ : ∃ X, fndV z0 k = X := ⟨_, rfl⟩
    rw [hX] at HS
    simp only [hX] at HI
    clear hX hd
    go_enter Tryd.func3, Tryd.ntmps3
    go_wp2_with fail
    refine (HS.out _).mono ?_
    rintro e w1 ⟨rfl, b1⟩
    go_wp2_with fail
    refine (HI.out _ b1).mono ?_
    rintro e w2 ⟨rfl, b2'⟩
    have b2 := below_then b1 (Nat.le_refl _) b2'
    clear b1 b2'
    go_wp2
    go_ret
    exact ⟨rfl, b2⟩
end Go.Proofs.YtdafepfjjmdkeaaDoor
