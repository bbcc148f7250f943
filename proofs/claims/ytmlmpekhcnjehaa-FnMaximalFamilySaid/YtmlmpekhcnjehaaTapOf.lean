/- Taps that are maximal, of the small sizes. -/
import Derived.Test.YtmlmpekhcnjehaaRegWalk
namespace Go.Proofs.Ytmlmpekhcnjehaa
open Go.RowKit
set_option linter.unusedVariables false
set_option maxRecDepth 100000
/-- Taps that are maximal, of the small sizes. -/
def tapOf (s : Nat) : Nat := if s = 5 then 5 else 3
theorem tapOf_reg (s : Nat) (h2 : 2 ≤ s) (h5 : s ≤ 5) : RegN s (tapOf s) 1 := by
  have : s = 2 ∨ s = 3 ∨ s = 4 ∨ s = 5 := by omega
  rcases this with rfl | rfl | rfl | rfl
  all_goals exact ⟨by omega, by omega, by decide, by decide, by decide⟩
theorem tapOf_orbit (s : Nat) (h2 : 2 ≤ s) (h5 : s ≤ 5) : tw s - 1 ≤ 256 ∧ idx s (tapOf s) 1 (tw s - 1) (stepsN s (tapOf s) (tw s - 1) 1) = 1 ∧ ∀ m, m < tw s - 1 → idx s (tapOf s) 1 m (stepsN s (tapOf s) m 1) = 0 := by
  have : s = 2 ∨ s = 3 ∨ s = 4 ∨ s = 5 := by omega
  rcases this with rfl | rfl | rfl | rfl
  all_goals exact ⟨by decide, by decide +kernel, by decide +kernel⟩
end Go.Proofs.Ytmlmpekhcnjehaa
