/- Contracts: turned copies of a sequence of the program, shifted strings of the model, ShiftBits of both sides. -/
import Derived.Test.YtlcnlhephhbhcaaSeqBase
import Derived.Test.YtlcnlhephhbhcaaSeqCopy
namespace Go.Proofs.Ytlcnlhephhbhcaa
open Go.RowKit
set_option linter.unusedVariables false
theorem ret_str {a b : ByteArray} (h : a = b) : Ending.returned (.string a) = .returned (.string b) := by rw [h]
theorem ret_slice {x : Option Addr} {a b : Nat} (h : a = b) : Ending.returned (.slice x a a) = .returned (.slice x b b) := by rw [h]
theorem sizeOf_u8 : ∀ w, (Go.sizeOf 5).run Try.prog w = .ok 1 w := fun _ => by kernel_rfl
theorem make_bytes (n : Nat) (h : n ≤ 9223372036854775807) (hb : 1 * n ≤ 281474976710656) (w : World) :
    (Instr.makeSlice 46 (.int .i64 (n : Int)) (.int .i64 (n : Int))).run Try.prog w = .ok (.slice (some ⟨w.heap.size, 0, none⟩) n n) (w.alloc (.cells (madeCells #[.int .u8 0] n) 5)) :=
  run_make_row' (P := Try.prog) 46 5 (.int .u8 0) 1 (by kernel_rfl) (by kernel_rfl) rfl .i64 .i64 n hb h w
/-- The row of a string twice: what stands at an index. -/
theorem twice_at (z : ByteArray) (i : Nat) (hi : i < 2 * z.size) :
    (if z.size ≤ i ∧ i < z.size + z.size then zb z (i - z.size) else if 0 ≤ i ∧ i < 0 + z.size then zb z (i - 0) else 0) = zb z (i % z.size) := by
  by_cases h : i < z.size
  · rw [if_neg (by omega), if_pos (by omega), Nat.mod_eq_of_lt h, Nat.sub_zero]
  · rw [if_pos (by omega), Nat.mod_eq_sub_mod (by omega), Nat.mod_eq_of_lt (by omega)]
set_option maxRecDepth 100000 in
theorem turned_any (z : ByteArray) (k : Int) (w : World) (h1 : 1 ≤ z.size) (h2 : z.size ≤ 255) :
    Calls Try.prog 130 #[.string z, .int .i64 k] w fun e w' => e = .returned (.slice (some ⟨w.heap.size, modN k z.size, none⟩) z.size z.size) ∧ Bytes w' w.heap.size 5 (2 * z.size) (fun i => zb z (i % z.size)) ∧ Below w.heap.size w w' := by
  have hmk := make_bytes (2 * z.size) (by omega) (by omega)
  rw [show ((2 * z.size : Nat) : Int) = 2 * (z.size : Int) by omega] at hmk
  have hm := modN_lt k z.size (by omega)
  obtain ⟨w1, c1, r1, b1⟩ := copy_string_row (P := Try.prog) 46 9 3 5 (by kernel_rfl) sizeOf_u8 w.heap.size 0 (2 * z.size) (2 * z.size) z (by omega) 5 (2 * z.size) (fun _ => 0) (Bytes.new (w := w) rfl) (by omega) w.heap.size w ((Below.refl _ _).alloc (Nat.le_refl _) _) (Nat.le_refl _)
  obtain ⟨w2, c2, r2, b2⟩ := copy_string_row (P := Try.prog) 46 9 3 5 (by kernel_rfl) sizeOf_u8 w.heap.size z.size (2 * z.size - z.size) (2 * z.size - z.size) z (by omega) 5 (2 * z.size) _ r1 (by omega) w.heap.size w b1 (Nat.le_refl _)
  have R := Lib.hid (r2.congr (fun i hi => twice_at z i hi))
  clear r1 r2 b1
  go_enter Try.func130, Try.ntmps130
  go_wp2_with (first | (go_at_call 138; refine (modulo_any k z.size _ h1 h2).mono ?_; rintro e w' ⟨rfl, rfl⟩))
  go_ret
  exact ⟨ret_slice (by omega), R.out, b2⟩
set_option maxRecDepth 100000 in
theorem l2Shift_any (z : ByteArray) (k : Int) (w : World) (h1 : 1 ≤ z.size) (h2 : z.size ≤ 255) :
    Calls Try.prog 118 #[.string z, .int .i64 k] w fun e w' => e = .returned (.string (shift z k)) ∧ ∃ n, w' = w.drewN n := by
  have hm := modN_lt k z.size (by omega)
  have hs := shift_cut z (modN k z.size) hm
  obtain ⟨y, hy⟩ : ∃ y, strF z.size (shB z (modN k z.size)) = y := ⟨_, rfl⟩
  have hl := fun w => l2Mod_any k z.size w h1 h2
  rw [hy] at hs
  have HY : Hid (shift z k = y) := Lib.hid (by unfold shift; exact hy)
  obtain ⟨m, hM⟩ : ∃ m, modN k z.size = m := ⟨_, rfl⟩
  rw [hM] at hm hs hl
  have s1 := size_extract z m z.size (Nat.le_refl _)
  have s2 := size_extract z 0 m (by omega)
  clear hy hM
  go_enter Try.func118, Try.ntmps118
  go_wp2_with (first | (go_at_call 127; refine (hl _).mono ?_; rintro e w' ⟨rfl, rfl⟩))
  go_quiet (fail)
  go_wp2
  go_ret
  exact ⟨ret_str HY.out.symm, _, rfl⟩
end Go.Proofs.Ytlcnlhephhbhcaa
