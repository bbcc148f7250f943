/- Bits that a function tells from their index; sums of more bits. -/
import Derived.Test.YtjnipbopimpggabSsStr
import Derived.Test.YtjnipbopimpggabSeqFun
namespace Go.Proofs.Ytjnipbopimpggab
open Go.RowKit
set_option linter.unusedVariables false
set_option maxRecDepth 100000
theorem strF_snoc' (n : Nat) (f : Nat → Nat) (d : Nat) (hd : d = f n) (hf : ∀ i, f i < 256) : strF n f ++ strF 1 (fun _ => d) = strF (n + 1) f := by
  subst hd
  apply strF_of
  · rw [ByteArray.size_append, strF_size, strF_size]
  · intro i hi
    by_cases h : i < n
    · rw [zb_append_left _ _ _ (by rw [strF_size]; exact h), zb_strF h (hf _)]
    · obtain rfl : i = n := by omega
      have e1 := zb_strF (n := 1) (f := fun _ => f i) (i := i - i) (by omega) (hf i)
      rw [zb_append_right _ _ _ (by rw [strF_size]; exact Nat.le_refl _) (by rw [strF_size, strF_size]; omega), strF_size, e1]
/-- A function value that answers the byte of an index. -/
def TellsB (g : Nat) (lb : Array Value) (n : Nat) (F : Nat → Nat) (w : World) : Prop :=
  ∀ W (i : Nat), Below w.heap.size w W → i < n → Calls Try.prog g (#[.int .i64 i] ++ lb) W fun e W' => e = .returned (.int .u8 (F i : Nat)) ∧ Below W.heap.size W W'
end Go.Proofs.Ytjnipbopimpggab
