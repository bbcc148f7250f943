/- Contracts of ShiftBits, AddBits, InvertBits, DecimateBits, BalanceOf, CrossOf and AutoOf, of both sides. -/
import Derived.Test.YtcofaceadobdiaaSeqSum
namespace Go.Proofs.Ytcofaceadobdiaa
open Go.RowKit
set_option linter.unusedVariables false
theorem turned_str {w' : World} {g : Nat} {z : ByteArray} (hR : Bytes w' g 5 (2 * z.size) (fun i => zb z (i % z.size))) (k : Int) (h : 1 ≤ z.size) (cap : Nat) :
    (convert 53 9 (.slice (some ⟨g, modN k z.size, none⟩) z.size cap)).run Try.prog w' = .ok (.string (shift z k)) w' := by
  have hm := modN_lt k z.size (by omega)
  exact hR.str (P := Try.prog) 53 5 9 (by kernel_rfl) (by kernel_rfl) (by kernel_rfl) (modN k z.size) z.size cap (by omega)
theorem ret_sb {a b : ByteArray} {c : Bool} (h : a = b) : Ending.returned (.tuple #[.string a, .bool c]) = .returned (.tuple #[.string b, .bool c]) := by rw [h]
theorem ret_ib {k : IntKind} {a b : Int} {c : Bool} (h : a = b) : Ending.returned (.tuple #[.int k a, .bool c]) = .returned (.tuple #[.int k b, .bool c]) := by rw [h]
theorem ret_ans {A : Int × Bool} {x : Int} {c : Bool} (h : A = (x, c)) : Ending.returned (.tuple #[.int .i64 x, .bool c]) = .returned (.tuple #[.int .i64 A.1, .bool A.2]) := by rw [h]
theorem str_ne {y z : ByteArray} (h : ¬ y = z) : (y.toList == z.toList) = false := by
  rw [ByteArray.toList_eq, ByteArray.toList_eq]
  apply Bool.eq_false_iff.2
  intro e
  have e' := eq_of_beq e
  apply h
  cases y; cases z
  congr 1
  exact Array.toList_inj.1 e'
theorem str_ne' {y z : ByteArray} (h : ¬ y = z) : (!y.toList == z.toList) = true := by rw [str_ne h]; rfl
def noS : ByteArray × Bool := (ByteArray.empty, false)
def noI : Int × Bool := (0, false)
theorem size_le {z : ByteArray} (h : seqB z = true) : 1 ≤ z.size ∧ z.size ≤ 255 := ((seqB_iff z).1 h).2
theorem iSeq_b (z : ByteArray) (w : World) (hs : z.size ≤ 9223372036854775807) :
    Calls Try.prog 132 #[.string z] w fun e w' => e = .returned (.bool (seqB z)) ∧ Below w.heap.size w w' :=
  (iSequenceValid_any z w hs).mono fun e w' ⟨he, hw⟩ => ⟨he, hw ▸ Below.refl _ _⟩
theorem sSeq_b (z : ByteArray) (w : World) (hs : z.size ≤ 9223372036854775807) :
    Calls Try.prog 142 #[.string z] w fun e w' => e = .returned (.bool (seqB z)) ∧ Below w.heap.size w w' :=
  (sSequenceValid_any z w hs).mono fun e w' ⟨he, hw⟩ => ⟨he, hw ▸ Below.refl _ _⟩
/-- What ShiftBits answers. -/
def shiftAns (z : ByteArray) (k : Int) : ByteArray × Bool := if seqB z then (shift z k, true) else noS
/-- What AddBits answers. -/
def addAns (a b : ByteArray) : ByteArray × Bool := if pairB a b then (addS a b, true) else noS
set_option maxRecDepth 100000 in
theorem iAdd_yes (a b : ByteArray) (w : World) (h : pairB a b = true) :
    Calls Try.prog 84 #[.string a, .string b] w fun e w' => e = .returned (.tuple #[.string (addS a b), .bool true]) ∧ Below w.heap.size w w' := by
  obtain ⟨h1, h2, h3⟩ := (pairB_iff a b).1 h
  obtain ⟨a1, a2, a3⟩ := (seqB_iff a).1 h1
  obtain ⟨b1, b2, b3⟩ := (seqB_iff b).1 h2
  have hmk := make_bytes a.size (by omega) (by omega)
  have HA := Lib.hid (okB_zb a a1)
  have HB := Lib.hid (okB_zb b b1)
  have H1 := Lib.hid h3
  clear h1 h2 a1 b1 h3
  go_enter Try.func84, Try.ntmps84
  go_wp2_with (first | (go_at_call 111; refine (iPair_yes a b _ h).mono ?_; rintro e w1 ⟨rfl, rfl⟩))
  go_loopw [17] (fun i wr => ∃ k : Nat, k ≤ a.size ∧ i = .int .i64 k ∧ Bytes wr w.heap.size 5 a.size (fun v => if v < k then addB (zb a v) (zb b v) else 0) ∧ Below w.heap.size w wr) (fun i _ => a.size - (intOf i).toNat)
  case atStart => exact ⟨0, by omega, rfl, Bytes.congr (Bytes.new rfl) (fun v _ => by simp), (Below.refl _ _).alloc (Nat.le_refl _) _⟩
  case round =>
    obtain ⟨k, hk, rfl, rB, rb⟩ := hrel
    clear hmk h
    by_cases hlt : k < a.size
    · have hlb : k < b.size := by have := H1.out; omega
      obtain ⟨A, v1, v2⟩ := iadd_value (zb a k) (zb b k) (HA.out k hlt) (HB.out k hlb)
      rw [← zb_at a k hlt, ← zb_at b k hlb] at v1
      obtain ⟨V, hV⟩ : ∃ V, addB (zb a k) (zb b k) = V := ⟨_, rfl⟩
      rw [hV] at v2
      have hc := rB.cell k hlt
      have hf := World.rowIs.frozen rB k
      have i0 : (0 : Int) ≤ (k : Int) := by omega
      have i1 : (k : Int) < (a.size : Int) := by omega
      have i2 : (k : Int) < (b.size : Int) := by omega
      have nB : Hid (Bytes (wr.setCell ⟨w.heap.size, k, none⟩ (.int .u8 (V : Nat))).drew w.heap.size 5 a.size (fun v => if v < k + 1 then addB (zb a v) (zb b v) else 0)) :=
        row_step (F := fun v => addB (zb a v) (zb b v)) rB hV
      have nb : Hid (Below w.heap.size w (wr.setCell ⟨w.heap.size, k, none⟩ (.int .u8 (V : Nat))).drew) := Lib.hid (below_drew (bytes_below rb (Nat.le_refl _) _ _))
      clear hV rB rb
      go_wp2_with fail
      go_still_tail 11, (by kernel_rfl)
      clear v1 v2
      go_wp2
      go_roundw
      case rel => exact ⟨k + 1, by omega, by go_num, nB.out, nb.out⟩
      case measure => simp [intOf]; omega
    · obtain rfl : k = a.size := by omega
      have hst := fun cap => rB.str (P := Try.prog) 53 5 9 (by kernel_rfl) (by kernel_rfl) (by kernel_rfl) 0 a.size cap (by omega)
      obtain ⟨y, hy⟩ : ∃ y, strF a.size (fun i => if 0 + i < a.size then addB (zb a (0 + i)) (zb b (0 + i)) else 0) = y := ⟨_, rfl⟩
      rw [hy] at hst
      have HY : Hid (y = addS a b) := Lib.hid (by rw [← hy]; exact strF_congr fun i hi => by simp [hi])
      clear hy
      go_wp2
      go_ret2
      exact ⟨ret_sb HY.out, rb⟩
set_option maxRecDepth 100000 in
theorem iAdd_any (a b : ByteArray) (w : World) (ha : a.size ≤ 9223372036854775807) (hb : b.size ≤ 9223372036854775807) :
    Calls Try.prog 84 #[.string a, .string b] w fun e w' => e = .returned (.tuple #[.string (addAns a b).1, .bool (addAns a b).2]) ∧ Below w.heap.size w w' := by
  cases h : pairB a b with
  | true => rw [show addAns a b = (addS a b, true) by unfold addAns; rw [h]; rfl]; exact iAdd_yes a b w h
  | false =>
    rw [show addAns a b = noS by unfold addAns; rw [h]; rfl]
    go_enter Try.func84, Try.ntmps84
    go_wp2_with (first | (go_at_call 111; refine (iPair_no a b _ ha hb h).mono ?_; rintro e w1 ⟨rfl, rfl⟩))
    go_ret2
    exact ⟨rfl, Below.refl _ _⟩
end Go.Proofs.Ytcofaceadobdiaa
