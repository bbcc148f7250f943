/- Contracts: which texts are sequences, of both sides; remainders; shifted strings. -/
import Derived.Test.YtkikhgmglacflaaSeqMath
import Derived.Test.YtkikhgmglacflaaRegBase
namespace Go.Proofs.Ytkikhgmglacflaa
open Go.RowKit
set_option linter.unusedVariables false
theorem bits_of_seq {z : ByteArray} (h : z.size ≤ 255) : bitsB z = okB z z.size := by unfold bitsB; rw [decide_eq_true (by omega), Bool.and_true]
theorem seq_out {z : ByteArray} (h : ¬ (1 ≤ z.size ∧ z.size ≤ 255)) : false = seqB z := by
  cases hb : seqB z with
  | false => rfl
  | true => exact absurd ((seqB_iff z).1 hb).2 h
theorem seq_in {z : ByteArray} (h1 : 1 ≤ z.size) (h2 : z.size ≤ 255) : bitsB z = seqB z := by
  unfold seqB; rw [bits_of_seq h2, decide_eq_true h1, decide_eq_true h2]; simp
set_option maxRecDepth 100000 in
theorem iSequenceValid_any (z : ByteArray) (w : World) (hs : z.size ≤ 9223372036854775807) :
    Calls Try.prog 58 #[.string z] w fun e w' => e = .returned (.bool (seqB z)) ∧ w = w' := by
  by_cases h1 : 0 < z.size
  · by_cases h2 : z.size ≤ 255
    · have hb := fun w => bitsValid_any z w (by omega)
      rw [seq_in (by omega) h2] at hb
      go_enter Try.func58, Try.ntmps58
      go_wp2_with (first | (go_at_call 52; refine (hb _).mono ?_; rintro e w' ⟨rfl, rfl⟩))
      go_ret
      exact ⟨rfl, rfl⟩
    · go_enter Try.func58, Try.ntmps58
      go_wp2
      go_ret
      exact ⟨ret_bool (seq_out (by omega)), rfl⟩
  · go_enter Try.func58, Try.ntmps58
    go_wp2
    go_ret
    exact ⟨ret_bool (seq_out (by omega)), rfl⟩
theorem iSequenceValid_yes (z : ByteArray) (w : World) (h : seqB z = true) :
    Calls Try.prog 58 #[.string z] w fun e w' => e = .returned (.bool true) ∧ w = w' := by
  rw [← h]; exact iSequenceValid_any z w (by have := ((seqB_iff z).1 h).2; omega)
theorem iSequenceValid_no (z : ByteArray) (w : World) (hs : z.size ≤ 9223372036854775807) (h : seqB z = false) :
    Calls Try.prog 58 #[.string z] w fun e w' => e = .returned (.bool false) ∧ w = w' := by
  rw [← h]; exact iSequenceValid_any z w hs
theorem seq_spec {z : ByteArray} (h : okB z z.size = true) (h2 : z.size ≤ 600) : (decide ((1 : Int) ≤ z.size) && decide ((z.size : Int) ≤ 255)) = seqB z := by
  unfold seqB; rw [h, Bool.true_and, Bool.eq_iff_iff]; simp; omega
theorem seq_nobits {z : ByteArray} (h : bitsB z = false) : false = seqB z := by
  cases hb : seqB z with
  | false => rfl
  | true => have := (seqB_iff z).1 hb; rw [bits_of_seq this.2.2, this.1] at h; cases h
set_option maxRecDepth 100000 in
theorem sSequenceValid_any (z : ByteArray) (w : World) (hs : z.size ≤ 9223372036854775807) :
    Calls Try.prog 56 #[.string z] w fun e w' => e = .returned (.bool (seqB z)) ∧ w = w' := by
  have hb := fun w => l1Bits_any z w hs
  cases hv : bitsB z with
  | true =>
    rw [hv] at hb
    have h6 : z.size ≤ 600 ∧ okB z z.size = true := by unfold bitsB at hv; simp only [Bool.and_eq_true, decide_eq_true_eq] at hv; exact ⟨hv.2, hv.1⟩
    have HR := Lib.hid (seq_spec h6.2 h6.1)
    clear hv h6
    go_enter Try.func56, Try.ntmps56
    go_wp2_with (first | (go_at_call 50; refine (hb _).mono ?_; rintro e w' ⟨rfl, rfl⟩) | (go_at_call 49; refine (l1In_any _ _ _ _).mono ?_; rintro e w' ⟨rfl, rfl⟩))
    go_ret
    exact ⟨ret_bool (by have := HR.out; rw [← this]), rfl⟩
  | false =>
    rw [hv] at hb
    have HR := Lib.hid (seq_nobits hv)
    clear hv
    go_enter Try.func56, Try.ntmps56
    go_wp2_with (first | (go_at_call 50; refine (hb _).mono ?_; rintro e w' ⟨rfl, rfl⟩))
    go_ret
    exact ⟨ret_bool HR.out, rfl⟩
theorem sSequenceValid_yes (z : ByteArray) (w : World) (h : seqB z = true) :
    Calls Try.prog 56 #[.string z] w fun e w' => e = .returned (.bool true) ∧ w = w' := by
  rw [← h]; exact sSequenceValid_any z w (by have := ((seqB_iff z).1 h).2; omega)
theorem sSequenceValid_no (z : ByteArray) (w : World) (hs : z.size ≤ 9223372036854775807) (h : seqB z = false) :
    Calls Try.prog 56 #[.string z] w fun e w' => e = .returned (.bool false) ∧ w = w' := by
  rw [← h]; exact sSequenceValid_any z w hs
/-- Two sequences of the same length. -/
def pairB (a b : ByteArray) : Bool := seqB a && (seqB b && decide (a.size = b.size))
theorem pairB_iff (a b : ByteArray) : pairB a b = true ↔ seqB a = true ∧ seqB b = true ∧ a.size = b.size := by
  unfold pairB; simp only [Bool.and_eq_true, decide_eq_true_eq]
end Go.Proofs.Ytkikhgmglacflaa
