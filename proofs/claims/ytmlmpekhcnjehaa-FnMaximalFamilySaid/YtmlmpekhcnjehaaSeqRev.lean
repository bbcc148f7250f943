/- ReverseBits of the model. -/
import Derived.Test.YtmlmpekhcnjehaaSeqFun
namespace Go.Proofs.Ytmlmpekhcnjehaa
open Go.RowKit
set_option linter.unusedVariables false
/-- A string in reverse order. -/
def revS (z : ByteArray) : ByteArray := strF z.size (fun i => zb z (z.size - 1 - i))
theorem revS_size (z : ByteArray) : (revS z).size = z.size := strF_size _ _
theorem zb_revS (z : ByteArray) (i : Nat) (hi : i < z.size) : zb (revS z) i = zb z (z.size - 1 - i) := zb_strF hi (zb_lt _ _)
def revAns (z : ByteArray) : ByteArray × Bool := if seqB z then (revS z, true) else noS
end Go.Proofs.Ytmlmpekhcnjehaa
