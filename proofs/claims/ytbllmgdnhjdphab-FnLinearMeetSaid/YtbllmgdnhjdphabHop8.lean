/- RemapHops of both sides. -/
import Derived.Test.YtbllmgdnhjdphabHop7
namespace Go.Proofs.Ytbllmgdnhjdphab
open Go.RowKit Go.Maps
set_option linter.unusedVariables false
set_option maxRecDepth 100000
theorem SlotAt.setCell {w : World} {b n : Nat} {D : DataW Unit} (h : SlotAt w b n D) {a : Addr} (ha : b ≠ a.block) (u : Value) : SlotAt (w.setCell a u) b n D := World.ownsMap.setCell h ha u
theorem SlotAt.below {w w' : World} {b n : Nat} {D : DataW Unit} (h : SlotAt w b n D) (hb : Below w.heap.size w w') : SlotAt w' b n D := World.ownsMap.kept h (grown_of_below hb) (by simp)
theorem ret_tb {x : Value} {a b : Bool} (h : a = b) : Ending.returned (.tuple #[x, .bool a]) = .returned (.tuple #[x, .bool b]) := by rw [h]
end Go.Proofs.Ytbllmgdnhjdphab
