/- Contracts of InvertBits, DecimateBits and AperiodicOf, of both sides. -/
import Derived.Test.YtbkppjelljljcaaSeqFun
import Derived.Test.YtbkppjelljljcaaSeqTurn
namespace Go.Proofs.Ytbkppjelljljcaa
open Go.RowKit
set_option linter.unusedVariables false
/-- All bits changed. -/
def invS (z : ByteArray) : ByteArray := strF z.size (fun i => 97 - zb z i)
theorem invS_size (z : ByteArray) : (invS z).size = z.size := strF_size _ _
theorem zb_invS (z : ByteArray) (i : Nat) (hi : i < z.size) : zb (invS z) i = 97 - zb z i := zb_strF hi (by omega)
theorem many_one (n i : Nat) (hi : i < n) : zb (many ⟨#[49]⟩ n) i = 49 := by
  rw [zb_many _ _ _ (by show i < 1 * n; omega)]
  show zb ⟨#[49]⟩ (i % 1) = 49
  rw [Nat.mod_one]; rfl
theorem invS_add (z : ByteArray) (h : okB z z.size = true) : addS z (many ⟨#[49]⟩ z.size) = invS z := by
  unfold addS invS
  refine strF_congr fun i hi => ?_
  rw [many_one _ _ hi]
  rcases okB_zb z h i hi with e | e <;> rw [e] <;> rfl
theorem many_one_size (n : Nat) : (many ⟨#[49]⟩ n).size = n := by rw [many_size]; show 1 * n = n; omega
theorem many_one_ok (n : Nat) : okB (many ⟨#[49]⟩ n) (many ⟨#[49]⟩ n).size = true := okB_of_zb _ fun i hi => by rw [many_one_size] at hi; right; exact many_one n i hi
def invAns (z : ByteArray) : ByteArray × Bool := if seqB z then (invS z, true) else noS
/-- Every k-th bit. -/
def decS (z : ByteArray) (k : Nat) : ByteArray := strF z.size (fun i => zb z ((k * i) % z.size))
theorem decS_size (z : ByteArray) (k : Nat) : (decS z k).size = z.size := strF_size _ _
theorem zb_decS (z : ByteArray) (k i : Nat) (hi : i < z.size) : zb (decS z k) i = zb z ((k * i) % z.size) := zb_strF hi (zb_lt _ _)
def decAns (z : ByteArray) (k : Int) : ByteArray × Bool := if seqB z && (decide (0 ≤ k) && decide (k ≤ 255)) then (decS z k.toNat, true) else noS
theorem decAns_no {z : ByteArray} {k : Int} (h : ¬ (seqB z = true ∧ 0 ≤ k ∧ k ≤ 255)) : decAns z k = noS := by
  unfold decAns
  rw [if_neg]
  intro e
  simp only [Bool.and_eq_true, decide_eq_true_eq] at e
  exact h e
theorem decAns_yes {z : ByteArray} {k : Nat} (h : seqB z = true) (hk : k ≤ 255) : decAns z k = (decS z k, true) := by
  unfold decAns
  rw [if_pos (by simp only [Bool.and_eq_true, decide_eq_true_eq]; exact ⟨h, by omega, by omega⟩)]
  rfl
theorem dec_prod (k i n : Nat) (hk : k ≤ 255) (hi : i < n) (hn : n ≤ 255) : ∃ P Q : Nat, (k : Int) * (i : Int) = P ∧ P ≤ 65025 ∧ (P : Int) % (n : Int) = Q ∧ Q < n ∧ modN (P : Int) n = Q ∧ (k * i) % n = Q := by
  have h1 : k * i ≤ 255 * 255 := Nat.mul_le_mul hk (by omega)
  exact ⟨k * i, (k * i) % n, by rw [← Int.natCast_mul], by omega, by rw [← Int.natCast_emod], Nat.mod_lt _ (by omega), modN_of_nat _ _, rfl⟩
end Go.Proofs.Ytbkppjelljljcaa
