/- SpreadBits of the model, and of both sides for every argument. -/
import Derived.Test.YtpcogmpnmkmoeabSig10
import Derived.Test.YtpcogmpnmkmoeabSig4
namespace Go.Proofs.Ytpcogmpnmkmoeab
open Go.RowKit
set_option linter.unusedVariables false
set_option maxRecDepth 100000
theorem chF_inv (q : ByteArray) (h : okB q q.size = true) (k : Nat) (hk : k < q.size) : chF (invS q) k = - chF q k := by
  unfold chF
  rw [zb_invS q k hk]
  rcases okB_zb q h k hk with e | e <;> rw [e] <;> decide
theorem invS_ok (q : ByteArray) (h : okB q q.size = true) : okB (invS q) (invS q).size = true := okB_of_zb _ fun i hi => by
  rw [invS_size] at hi
  rw [zb_invS q i hi]
  rcases okB_zb q h i hi with e | e <;> rw [e] <;> decide
end Go.Proofs.Ytpcogmpnmkmoeab
