/- ReverseBits of the model. -/
import Derived.Test.YtmmonhagceacjaaSeqFun
namespace Go.Proofs.Ytmmonhagceacjaa
open Go.RowKit
set_option linter.unusedVariables false
/-- A string in reverse order. -/
def revS (z : ByteArray) : ByteArray := strF z.size (fun i => zb z (z.size - 1 - i))
theorem revS_size (z : ByteArray) : (revS z).size = z.size := strF_size _ _
theorem zb_revS (z : ByteArray) (i : Nat) (hi : i < z.size) : zb (revS z) i = zb z (z.size - 1 - i) := zb_strF hi (zb_lt _ _)
def revAns (z : ByteArray) : ByteArray × Bool := if seqB z then (revS z, true) else noS
set_option maxRecDepth 100000 in
theorem sRev_yes (z : ByteArray) (w : World) (h : seqB z = true) :
    Calls Try.prog 38 #[.string z] w fun e w' => e = .returned (.tuple #[.string (revS z), .bool true]) ∧ Below w.heap.size w w' := by
  have h12 := size_le h
  have hmk := make_bytes z.size (by omega) (by omega)
  go_enter Try.func38, Try.ntmps38
  go_wp2_with (first | (go_at_call 82; refine (sSequenceValid_yes z _ h).mono ?_; rintro e w1 ⟨rfl, rfl⟩))
  go_loopw [5] (fun i wr => ∃ k : Nat, k ≤ z.size ∧ i = .int .i64 k ∧ Bytes wr w.heap.size 5 z.size (fun v => if v < k then zb z (z.size - 1 - v) else 0) ∧ Below w.heap.size w wr) (fun i _ => z.size - (intOf i).toNat)
  case atStart => exact ⟨0, by omega, rfl, Bytes.congr (Bytes.new rfl) (fun v _ => by simp), (Below.refl _ _).alloc (Nat.le_refl _) _⟩
  case round =>
    obtain ⟨k, hk, rfl, rB, rb⟩ := hrel
    clear hmk h
    by_cases hlt : k < z.size
    · obtain ⟨Q, hQ⟩ : ∃ Q, z.size - 1 - k = Q := ⟨_, rfl⟩
      have p4 : Q < z.size := by omega
      have p1 : (z.size : Int) - 1 - (k : Int) = (Q : Int) := by omega
      have hc := rB.cell k hlt
      have hf := World.rowIs.frozen rB k
      have i0 : (0 : Int) ≤ (k : Int) := by omega
      have i1 : (k : Int) < (z.size : Int) := by omega
      have i2 : (0 : Int) ≤ (Q : Int) := by omega
      have i3 : (Q : Int) < (z.size : Int) := by omega
      have nB : Hid (Bytes (wr.setCell ⟨w.heap.size, k, none⟩ (.int .u8 (z[Q].toNat : Nat))) w.heap.size 5 z.size (fun v => if v < k + 1 then zb z (z.size - 1 - v) else 0)) :=
        row_step (F := fun v => zb z (z.size - 1 - v)) rB (by show zb z (z.size - 1 - k) = _; rw [hQ, zb_at z Q p4])
      have nb : Hid (Below w.heap.size w (wr.setCell ⟨w.heap.size, k, none⟩ (.int .u8 (z[Q].toNat : Nat)))) := Lib.hid (bytes_below rb (Nat.le_refl _) _ _)
      clear rB rb hQ
      go_wp2
      go_roundw
      case rel => exact ⟨k + 1, by omega, by go_num, nB.out, nb.out⟩
      case measure => simp [intOf]; omega
    · obtain rfl : k = z.size := by omega
      have hst := fun cap => rB.str (P := Try.prog) 22 5 9 (by kernel_rfl) (by kernel_rfl) (by kernel_rfl) 0 z.size cap (by omega)
      obtain ⟨y, hy⟩ : ∃ y, strF z.size (fun i => if 0 + i < z.size then zb z (z.size - 1 - (0 + i)) else 0) = y := ⟨_, rfl⟩
      rw [hy] at hst
      have HY : Hid (y = revS z) := Lib.hid (by rw [← hy]; exact strF_congr fun i hi => by simp [hi])
      clear hy
      go_wp2
      go_ret2
      exact ⟨ret_sb HY.out, rb⟩
set_option maxRecDepth 100000 in
theorem sRev_any (z : ByteArray) (w : World) (hs : z.size ≤ 1048576) :
    Calls Try.prog 38 #[.string z] w fun e w' => e = .returned (.tuple #[.string (revAns z).1, .bool (revAns z).2]) ∧ Below w.heap.size w w' := by
  cases h : seqB z with
  | true => rw [show revAns z = (revS z, true) by unfold revAns; rw [h]; rfl]; exact sRev_yes z w h
  | false =>
    rw [show revAns z = noS by unfold revAns; rw [h]; rfl]
    have hmk := make_bytes z.size (by omega) (by omega)
    go_enter Try.func38, Try.ntmps38
    go_wp2_with (first | (go_at_call 82; refine (sSequenceValid_no z _ (by omega) h).mono ?_; rintro e w1 ⟨rfl, rfl⟩))
    go_ret2
    exact ⟨rfl, (Below.refl _ _).alloc (Nat.le_refl _) _⟩
end Go.Proofs.Ytmmonhagceacjaa
