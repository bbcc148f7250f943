/- The model's Walsh codes. -/
import Derived.Test.YtkkakfkebjdkeaaSeqFun
namespace Go.Proofs.Ytkkakfkebjdkeaa
open Go.RowKit
set_option linter.unusedVariables false
/-- The bit of a Walsh code. -/
def walF (i k : Nat) : Nat := par (i &&& k)
theorem walF_lt (i k : Nat) : walF i k < 2 := par_lt _
def walshB (n i : Nat) : ByteArray := strF n (fun k => 48 + walF i k)
theorem walshB_size (n i : Nat) : (walshB n i).size = n := strF_size _ _
theorem tw_6 (o : Nat) (h : o ≤ 6) : tw o ≤ 64 := Nat.pow_le_pow_right (n := 2) (by omega) h
theorem and_bd (i k : Nat) (h : i < 64) : i &&& k < 64 := Nat.lt_of_le_of_lt Nat.and_le_left h
end Go.Proofs.Ytkkakfkebjdkeaa
