/- FreePaths and AllocateTree of both sides, and the walks of their exact laws. -/
import Derived.Test.YtgfehabpoebaoaaFamFree
namespace Go.Proofs.Ytgfehabpoebaoaa
open Go.RowKit
set_option linter.unusedVariables false
theorem digS_path (k d : Nat) (hd : d ≤ 6) : pathB (digS k d) = true := by
  refine (pathB_iff _).2 ⟨okB_of_zb _ fun i hi => ?_, by rw [digS_size]; exact hd⟩
  rw [digS_size] at hi
  unfold digS
  rw [zb_strF hi (digF_lt _ _ _)]
  unfold digF
  omega
def freeAns (n : Nat) (f : Nat → ByteArray) (D : Int) : Int := if usedB n f D then ((frL n f D.toNat (tw D.toNat)).length : Nat) else -1
def allocAns (n : Nat) (f : Nat → ByteArray) (D : Int) : ByteArray × Bool := if usedB n f D then (if (frL n f D.toNat (tw D.toNat)).length = 0 then noS else (LS (frL n f D.toNat (tw D.toNat)) 0, true)) else noS
end Go.Proofs.Ytgfehabpoebaoaa
