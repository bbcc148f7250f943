/- Contracts of ShiftBits, AddBits, InvertBits, DecimateBits, BalanceOf, CrossOf and AutoOf, of both sides. -/
import Derived.Test.YtjeadndajndmhaaSeqSum
namespace Go.Proofs.Ytjeadndajndmhaa
open Go.RowKit
set_option linter.unusedVariables false
theorem turned_str {w' : World} {g : Nat} {z : ByteArray} (hR : Bytes w' g 5 (2 * z.size) (fun i => zb z (i % z.size))) (k : Int) (h : 1 ≤ z.size) (cap : Nat) :
    (convert 22 9 (.slice (some ⟨g, modN k z.size, none⟩) z.size cap)).run Try.prog w' = .ok (.string (shift z k)) w' := by
  have hm := modN_lt k z.size (by omega)
  exact hR.str (P := Try.prog) 22 5 9 (by kernel_rfl) (by kernel_rfl) (by kernel_rfl) (modN k z.size) z.size cap (by omega)
theorem ret_sb {a b : ByteArray} {c : Bool} (h : a = b) : Ending.returned (.tuple #[.string a, .bool c]) = .returned (.tuple #[.string b, .bool c]) := by rw [h]
theorem ret_ib {k : IntKind} {a b : Int} {c : Bool} (h : a = b) : Ending.returned (.tuple #[.int k a, .bool c]) = .returned (.tuple #[.int k b, .bool c]) := by rw [h]
theorem ret_ans {A : Int × Bool} {x : Int} {c : Bool} (h : A = (x, c)) : Ending.returned (.tuple #[.int .i64 x, .bool c]) = .returned (.tuple #[.int .i64 A.1, .bool A.2]) := by rw [h]
theorem str_ne {y z : ByteArray} (h : ¬ y = z) : (y.toList == z.toList) = false := by
  rw [ByteArray.toList_eq, ByteArray.toList_eq]
  apply Bool.eq_false_iff.2
  intro e
  have e' := eq_of_beq e
  apply h
  cases y; cases z
  congr 1
  exact Array.toList_inj.1 e'
theorem str_ne' {y z : ByteArray} (h : ¬ y = z) : (!y.toList == z.toList) = true := by rw [str_ne h]; rfl
def noS : ByteArray × Bool := (ByteArray.empty, false)
def noI : Int × Bool := (0, false)
theorem size_le {z : ByteArray} (h : seqB z = true) : 1 ≤ z.size ∧ z.size ≤ 255 := ((seqB_iff z).1 h).2
theorem iSeq_b (z : ByteArray) (w : World) (hs : z.size ≤ 9223372036854775807) :
    Calls Try.prog 20 #[.string z] w fun e w' => e = .returned (.bool (seqB z)) ∧ Below w.heap.size w w' :=
  (iSequenceValid_any z w hs).mono fun e w' ⟨he, hw⟩ => ⟨he, hw ▸ Below.refl _ _⟩
theorem sSeq_b (z : ByteArray) (w : World) (hs : z.size ≤ 9223372036854775807) :
    Calls Try.prog 38 #[.string z] w fun e w' => e = .returned (.bool (seqB z)) ∧ Below w.heap.size w w' :=
  (sSequenceValid_any z w hs).mono fun e w' ⟨he, hw⟩ => ⟨he, hw ▸ Below.refl _ _⟩
/-- What ShiftBits answers. -/
def shiftAns (z : ByteArray) (k : Int) : ByteArray × Bool := if seqB z then (shift z k, true) else noS
set_option maxRecDepth 100000 in
theorem iShift_yes (z : ByteArray) (k : Int) (w : World) (h : seqB z = true) :
    Calls Try.prog 41 #[.string z, .int .i64 k] w fun e w' => e = .returned (.tuple #[.string (shift z k), .bool true]) ∧ Below w.heap.size w w' := by
  have h12 := size_le h
  have ht := fun w => turned_any z k w h12.1 h12.2
  have hz := fun (w' : World) (g : Nat) (hR : Bytes w' g 5 (2 * z.size) (fun i => zb z (i % z.size))) => turned_str hR k h12.1
  have hm := modN_lt k z.size (by omega)
  obtain ⟨y, hy⟩ : ∃ y, shift z k = y := ⟨_, rfl⟩
  rw [hy] at hz ⊢
  have HZ := Lib.hid hz
  clear hy hz
  go_enter Try.func41, Try.ntmps41
  go_wp2_with fail
  refine (iSequenceValid_yes z _ h).mono ?_
  rintro e w1 ⟨rfl, rfl⟩
  go_wp2_with fail
  refine (ht _).mono ?_
  rintro e w1 ⟨rfl, hR, hB⟩
  have hst := HZ.out _ _ hR
  clear hR h
  go_wp2
  go_ret2
  exact ⟨rfl, hB⟩
set_option maxRecDepth 100000 in
theorem iShift_no (z : ByteArray) (k : Int) (w : World) (hs : z.size ≤ 9223372036854775807) (h : seqB z = false) :
    Calls Try.prog 41 #[.string z, .int .i64 k] w fun e w' => e = .returned (.tuple #[.string ByteArray.empty, .bool false]) ∧ Below w.heap.size w w' := by
  go_enter Try.func41, Try.ntmps41
  go_wp2_with (first | (go_at_call 20; refine (iSequenceValid_no z _ hs h).mono ?_; rintro e w1 ⟨rfl, rfl⟩))
  go_ret2
  exact ⟨rfl, Below.refl _ _⟩
theorem iShift_any (z : ByteArray) (k : Int) (w : World) (hs : z.size ≤ 9223372036854775807) :
    Calls Try.prog 41 #[.string z, .int .i64 k] w fun e w' => e = .returned (.tuple #[.string (shiftAns z k).1, .bool (shiftAns z k).2]) ∧ Below w.heap.size w w' := by
  cases h : seqB z with
  | true => rw [show shiftAns z k = (shift z k, true) by unfold shiftAns; rw [h]; rfl]; exact iShift_yes z k w h
  | false => rw [show shiftAns z k = noS by unfold shiftAns; rw [h]; rfl]; exact iShift_no z k w hs h
/-- What AddBits answers. -/
def addAns (a b : ByteArray) : ByteArray × Bool := if pairB a b then (addS a b, true) else noS
end Go.Proofs.Ytjeadndajndmhaa
