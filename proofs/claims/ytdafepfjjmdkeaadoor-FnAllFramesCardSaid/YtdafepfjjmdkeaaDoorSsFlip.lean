/- ssFlip: a bit of a string changed. -/
import Derived.Test.YtdafepfjjmdkeaaDoorBytesRow
import Derived.Test.YtdafepfjjmdkeaaDoorFrm0
import Derived.Lib.ConvBytes
import Derived.Lib.OwnBridge
import Derived.StillTailTactics
namespace Go.Proofs.YtdafepfjjmdkeaaDoor
open Go.RowKit
set_option linter.unusedVariables false
set_option maxRecDepth 100000
/-- A string with one bit changed. -/
def flipS (z : ByteArray) (k : Nat) : ByteArray := strF z.size (fun i => if i = k then 97 - zb z i else zb z i)
theorem flipS_size (z : ByteArray) (k : Nat) : (flipS z k).size = z.size := strF_size _ _
theorem zb_flipS {z : ByteArray} {k i : Nat} (hi : i < z.size) : zb (flipS z k) i = if i = k then 97 - zb z i else zb z i := by
  have := zb_lt z i
  exact zb_strF (f := fun i => if i = k then 97 - zb z i else zb z i) hi (by show (if i = k then 97 - zb z i else zb z i) < 256; split <;> omega)
theorem flipS_ok {z : ByteArray} (h : okB z z.size = true) (k : Nat) : okB (flipS z k) (flipS z k).size = true := okB_of_zb _ fun i hi => by
  rw [flipS_size] at hi
  rw [zb_flipS hi]
  rcases okB_zb z h i hi with e | e <;> rw [e] <;> split <;> simp
end Go.Proofs.YtdafepfjjmdkeaaDoor
