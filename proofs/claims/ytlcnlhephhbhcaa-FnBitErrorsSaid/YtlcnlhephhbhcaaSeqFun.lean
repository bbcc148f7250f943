/- Contracts of ShiftBits, AddBits, InvertBits, DecimateBits, BalanceOf, CrossOf and AutoOf, of both sides. -/
import Derived.Test.YtlcnlhephhbhcaaSeqSum
namespace Go.Proofs.Ytlcnlhephhbhcaa
open Go.RowKit
set_option linter.unusedVariables false
theorem turned_str {w' : World} {g : Nat} {z : ByteArray} (hR : Bytes w' g 5 (2 * z.size) (fun i => zb z (i % z.size))) (k : Int) (h : 1 ≤ z.size) (cap : Nat) :
    (convert 46 9 (.slice (some ⟨g, modN k z.size, none⟩) z.size cap)).run Try.prog w' = .ok (.string (shift z k)) w' := by
  have hm := modN_lt k z.size (by omega)
  exact hR.str (P := Try.prog) 46 5 9 (by kernel_rfl) (by kernel_rfl) (by kernel_rfl) (modN k z.size) z.size cap (by omega)
theorem ret_sb {a b : ByteArray} {c : Bool} (h : a = b) : Ending.returned (.tuple #[.string a, .bool c]) = .returned (.tuple #[.string b, .bool c]) := by rw [h]
theorem ret_ib {k : IntKind} {a b : Int} {c : Bool} (h : a = b) : Ending.returned (.tuple #[.int k a, .bool c]) = .returned (.tuple #[.int k b, .bool c]) := by rw [h]
theorem ret_ans {A : Int × Bool} {x : Int} {c : Bool} (h : A = (x, c)) : Ending.returned (.tuple #[.int .i64 x, .bool c]) = .returned (.tuple #[.int .i64 A.1, .bool A.2]) := by rw [h]
theorem str_ne {y z : ByteArray} (h : ¬ y = z) : (y.toList == z.toList) = false := by
  rw [ByteArray.toList_eq, ByteArray.toList_eq]
  apply Bool.eq_false_iff.2
  intro e
  have e' := eq_of_beq e
  apply h
  cases y; cases z
  congr 1
  exact Array.toList_inj.1 e'
theorem str_ne' {y z : ByteArray} (h : ¬ y = z) : (!y.toList == z.toList) = true := by rw [str_ne h]; rfl
def noS : ByteArray × Bool := (ByteArray.empty, false)
def noI : Int × Bool := (0, false)
theorem size_le {z : ByteArray} (h : seqB z = true) : 1 ≤ z.size ∧ z.size ≤ 255 := ((seqB_iff z).1 h).2
theorem iSeq_b (z : ByteArray) (w : World) (hs : z.size ≤ 9223372036854775807) :
    Calls Try.prog 75 #[.string z] w fun e w' => e = .returned (.bool (seqB z)) ∧ Below w.heap.size w w' :=
  (iSequenceValid_any z w hs).mono fun e w' ⟨he, hw⟩ => ⟨he, hw ▸ Below.refl _ _⟩
theorem sSeq_b (z : ByteArray) (w : World) (hs : z.size ≤ 9223372036854775807) :
    Calls Try.prog 72 #[.string z] w fun e w' => e = .returned (.bool (seqB z)) ∧ Below w.heap.size w w' :=
  (sSequenceValid_any z w hs).mono fun e w' ⟨he, hw⟩ => ⟨he, hw ▸ Below.refl _ _⟩
/-- What ShiftBits answers. -/
def shiftAns (z : ByteArray) (k : Int) : ByteArray × Bool := if seqB z then (shift z k, true) else noS
/-- What AddBits answers. -/
def addAns (a b : ByteArray) : ByteArray × Bool := if pairB a b then (addS a b, true) else noS
end Go.Proofs.Ytlcnlhephhbhcaa
