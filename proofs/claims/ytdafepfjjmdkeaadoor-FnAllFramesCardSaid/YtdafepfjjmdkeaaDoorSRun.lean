/- The bits of a register of the model. -/
import Derived.Test.YtdafepfjjmdkeaaDoorRegWalk
import Derived.Test.YtdafepfjjmdkeaaDoorSeqFun
import Derived.Deep.RegionWith
namespace Go.Proofs.YtdafepfjjmdkeaaDoor
open Go.RowKit
set_option linter.unusedVariables false
/-- The first bits of a register. -/
def runS (s t x n : Nat) : ByteArray := strF n (fun i => 48 + stepsN s t i x % 2)
theorem runS_size (s t x n : Nat) : (runS s t x n).size = n := strF_size _ _
theorem Bytes.kept {w w' : World} {b : Nat} {t : TypeId} {n : Nat} {f : Nat → Nat} {row : Option Nat} (h : Bytes w b t n f) (hg : w.grownBy w' row) (hne : some b ≠ row) : Bytes w' b t n f :=
  World.rowIs.of_block h (hg.block b h.lt hne)
end Go.Proofs.YtdafepfjjmdkeaaDoor
