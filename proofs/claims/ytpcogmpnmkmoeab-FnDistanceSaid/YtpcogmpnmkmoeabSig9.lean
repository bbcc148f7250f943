/- Correlations in the model; DespreadSignal and ReceiveUser of both sides. -/
import Derived.Test.YtpcogmpnmkmoeabSig8
namespace Go.Proofs.Ytpcogmpnmkmoeab
open Go.RowKit
set_option linter.unusedVariables false
set_option maxRecDepth 100000
def dspN (n : Nat) (f : Nat → Int) (q : ByteArray) (c : Int) : Nat := if rcB n f q 0 c then c.toNat else 0
theorem dspN_le6 (n : Nat) (f : Nat → Int) (q : ByteArray) (c : Int) : dspN n f q c ≤ 1000000 := by
  unfold dspN
  split
  · rename_i h
    have := ((rcB_iff _ _ _ _ _).1 h).2.2.2
    omega
  · omega
def rvAns (n : Nat) (f : Nat → Int) (q : ByteArray) (d c : Int) : ByteArray × Bool := if rcB n f q d c then (sgS c.toNat (coL n f q d.toNat), true) else noS
end Go.Proofs.Ytpcogmpnmkmoeab
