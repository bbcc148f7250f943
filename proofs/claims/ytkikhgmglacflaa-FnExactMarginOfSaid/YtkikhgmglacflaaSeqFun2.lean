/- Contracts of BalanceOf, CrossOf and AutoOf, of both sides. -/
import Derived.Test.YtkikhgmglacflaaSeqFun
namespace Go.Proofs.Ytkikhgmglacflaa
open Go.RowKit
set_option linter.unusedVariables false
/-- What BalanceOf answers. -/
def balAns (z : ByteArray) : Int × Bool := if seqB z then (balN z, true) else noI
/-- What CrossOf answers. -/
def crossAns (a b : ByteArray) (k : Int) : Int × Bool := if pairB a b then (crossN a b (modN k b.size), true) else noI
def autoAns (z : ByteArray) (k : Int) : Int × Bool := crossAns z z k
end Go.Proofs.Ytkikhgmglacflaa
