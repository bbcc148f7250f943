/- Contracts of GoldBound, of both sides. -/
import Derived.Test.YtdafepfjjmdkeaaDoorRegBase
namespace Go.Proofs.YtdafepfjjmdkeaaDoor
open Go.RowKit
set_option linter.unusedVariables false
/-- The greatest correlation of Gold codes. -/
def goldA (S : Int) : Int := if 2 ≤ S ∧ S ≤ 8 then 1 + (tw ((S.toNat + 2) / 2) : Nat) else -1
theorem goldA_no {S : Int} (h : ¬ (2 ≤ S ∧ S ≤ 8)) : -1 = goldA S := by unfold goldA; rw [if_neg h]
end Go.Proofs.YtdafepfjjmdkeaaDoor
