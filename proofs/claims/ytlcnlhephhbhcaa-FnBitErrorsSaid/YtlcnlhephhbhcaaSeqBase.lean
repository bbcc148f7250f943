/- Contracts: which texts are sequences, of both sides; remainders; shifted strings. -/
import Derived.Test.YtlcnlhephhbhcaaSeqMath
import Derived.Test.YtlcnlhephhbhcaaRegBase
namespace Go.Proofs.Ytlcnlhephhbhcaa
open Go.RowKit
set_option linter.unusedVariables false
theorem bits_of_seq {z : ByteArray} (h : z.size ≤ 255) : bitsB z = okB z z.size := by unfold bitsB; rw [decide_eq_true (by omega), Bool.and_true]
theorem seq_out {z : ByteArray} (h : ¬ (1 ≤ z.size ∧ z.size ≤ 255)) : false = seqB z := by
  cases hb : seqB z with
  | false => rfl
  | true => exact absurd ((seqB_iff z).1 hb).2 h
theorem seq_in {z : ByteArray} (h1 : 1 ≤ z.size) (h2 : z.size ≤ 255) : bitsB z = seqB z := by
  unfold seqB; rw [bits_of_seq h2, decide_eq_true h1, decide_eq_true h2]; simp
set_option maxRecDepth 100000 in
theorem iSequenceValid_any (z : ByteArray) (w : World) (hs : z.size ≤ 9223372036854775807) :
    Calls Try.prog 75 #[.string z] w fun e w' => e = .returned (.bool (seqB z)) ∧ w = w' := by
  by_cases h1 : 0 < z.size
  · by_cases h2 : z.size ≤ 255
    · have hb := fun w => bitsValid_any z w (by omega)
      rw [seq_in (by omega) h2] at hb
      go_enter Try.func75, Try.ntmps75
      go_wp2_with (first | (go_at_call 76; refine (hb _).mono ?_; rintro e w' ⟨rfl, rfl⟩))
      go_ret
      exact ⟨rfl, rfl⟩
    · go_enter Try.func75, Try.ntmps75
      go_wp2
      go_ret
      exact ⟨ret_bool (seq_out (by omega)), rfl⟩
  · go_enter Try.func75, Try.ntmps75
    go_wp2
    go_ret
    exact ⟨ret_bool (seq_out (by omega)), rfl⟩
theorem iSequenceValid_yes (z : ByteArray) (w : World) (h : seqB z = true) :
    Calls Try.prog 75 #[.string z] w fun e w' => e = .returned (.bool true) ∧ w = w' := by
  rw [← h]; exact iSequenceValid_any z w (by have := ((seqB_iff z).1 h).2; omega)
theorem iSequenceValid_no (z : ByteArray) (w : World) (hs : z.size ≤ 9223372036854775807) (h : seqB z = false) :
    Calls Try.prog 75 #[.string z] w fun e w' => e = .returned (.bool false) ∧ w = w' := by
  rw [← h]; exact iSequenceValid_any z w hs
theorem seq_spec {z : ByteArray} (h : okB z z.size = true) (h2 : z.size ≤ 600) : (decide ((1 : Int) ≤ z.size) && decide ((z.size : Int) ≤ 255)) = seqB z := by
  unfold seqB; rw [h, Bool.true_and, Bool.eq_iff_iff]; simp; omega
theorem seq_nobits {z : ByteArray} (h : bitsB z = false) : false = seqB z := by
  cases hb : seqB z with
  | false => rfl
  | true => have := (seqB_iff z).1 hb; rw [bits_of_seq this.2.2, this.1] at h; cases h
set_option maxRecDepth 100000 in
theorem sSequenceValid_any (z : ByteArray) (w : World) (hs : z.size ≤ 9223372036854775807) :
    Calls Try.prog 72 #[.string z] w fun e w' => e = .returned (.bool (seqB z)) ∧ w = w' := by
  have hb := fun w => l1Bits_any z w hs
  cases hv : bitsB z with
  | true =>
    rw [hv] at hb
    have h6 : z.size ≤ 600 ∧ okB z z.size = true := by unfold bitsB at hv; simp only [Bool.and_eq_true, decide_eq_true_eq] at hv; exact ⟨hv.2, hv.1⟩
    have HR := Lib.hid (seq_spec h6.2 h6.1)
    clear hv h6
    go_enter Try.func72, Try.ntmps72
    go_wp2_with (first | (go_at_call 73; refine (hb _).mono ?_; rintro e w' ⟨rfl, rfl⟩) | (go_at_call 74; refine (l1In_any _ _ _ _).mono ?_; rintro e w' ⟨rfl, rfl⟩))
    go_ret
    exact ⟨ret_bool (by have := HR.out; rw [← this]), rfl⟩
  | false =>
    rw [hv] at hb
    have HR := Lib.hid (seq_nobits hv)
    clear hv
    go_enter Try.func72, Try.ntmps72
    go_wp2_with (first | (go_at_call 73; refine (hb _).mono ?_; rintro e w' ⟨rfl, rfl⟩))
    go_ret
    exact ⟨ret_bool HR.out, rfl⟩
theorem sSequenceValid_yes (z : ByteArray) (w : World) (h : seqB z = true) :
    Calls Try.prog 72 #[.string z] w fun e w' => e = .returned (.bool true) ∧ w = w' := by
  rw [← h]; exact sSequenceValid_any z w (by have := ((seqB_iff z).1 h).2; omega)
theorem sSequenceValid_no (z : ByteArray) (w : World) (hs : z.size ≤ 9223372036854775807) (h : seqB z = false) :
    Calls Try.prog 72 #[.string z] w fun e w' => e = .returned (.bool false) ∧ w = w' := by
  rw [← h]; exact sSequenceValid_any z w hs
/-- Two sequences of the same length. -/
def pairB (a b : ByteArray) : Bool := seqB a && (seqB b && decide (a.size = b.size))
theorem pairB_iff (a b : ByteArray) : pairB a b = true ↔ seqB a = true ∧ seqB b = true ∧ a.size = b.size := by
  unfold pairB; simp only [Bool.and_eq_true, decide_eq_true_eq]
set_option maxRecDepth 100000 in
theorem iPair_any (a b : ByteArray) (w : World) (ha : a.size ≤ 9223372036854775807) (hb : b.size ≤ 9223372036854775807) :
    Calls Try.prog 128 #[.string a, .string b] w fun e w' => e = .returned (.bool (pairB a b)) ∧ w = w' := by
  cases h1 : seqB a with
  | false =>
    have HR := Lib.hid (show false = pairB a b by unfold pairB; rw [h1]; rfl)
    go_enter Try.func128, Try.ntmps128
    go_wp2_with (first | (go_at_call 75; refine (iSequenceValid_no a _ ha h1).mono ?_; rintro e w' ⟨rfl, rfl⟩))
    go_ret
    exact ⟨ret_bool HR.out, rfl⟩
  | true =>
    cases h2 : seqB b with
    | false =>
      have HR := Lib.hid (show false = pairB a b by unfold pairB; rw [h1, h2]; rfl)
      go_enter Try.func128, Try.ntmps128
      go_wp2_with (fail)
      refine (iSequenceValid_yes a _ h1).mono ?_
      rintro e w' ⟨rfl, rfl⟩
      go_wp2_with (fail)
      refine (iSequenceValid_no b _ hb h2).mono ?_
      rintro e w' ⟨rfl, rfl⟩
      go_wp2
      go_ret
      exact ⟨ret_bool HR.out, rfl⟩
    | true =>
      have HR := Lib.hid (show decide (a.size = b.size) = pairB a b by unfold pairB; rw [h1, h2]; rfl)
      go_enter Try.func128, Try.ntmps128
      go_wp2_with (fail)
      refine (iSequenceValid_yes a _ h1).mono ?_
      rintro e w' ⟨rfl, rfl⟩
      go_wp2_with (fail)
      refine (iSequenceValid_yes b _ h2).mono ?_
      rintro e w' ⟨rfl, rfl⟩
      go_wp2
      go_ret
      exact ⟨ret_bool (by rw [← HR.out, Bool.eq_iff_iff]; simp; omega), rfl⟩
theorem iPair_yes (a b : ByteArray) (w : World) (h : pairB a b = true) :
    Calls Try.prog 128 #[.string a, .string b] w fun e w' => e = .returned (.bool true) ∧ w = w' := by
  have h' := (pairB_iff a b).1 h
  have h1 := (seqB_iff a).1 h'.1
  have h2 := (seqB_iff b).1 h'.2.1
  rw [← h]; exact iPair_any a b w (by omega) (by omega)
theorem iPair_no (a b : ByteArray) (w : World) (ha : a.size ≤ 9223372036854775807) (hb : b.size ≤ 9223372036854775807) (h : pairB a b = false) :
    Calls Try.prog 128 #[.string a, .string b] w fun e w' => e = .returned (.bool false) ∧ w = w' := by
  rw [← h]; exact iPair_any a b w ha hb
set_option maxRecDepth 100000 in
theorem modulo_any (k : Int) (n : Nat) (w : World) (h1 : 1 ≤ n) (h2 : n ≤ 255) :
    Calls Try.prog 138 #[.int .i64 k, .int .i64 n] w fun e w' => e = .returned (.int .i64 (modN k n : Nat)) ∧ w = w' := by
  have hb := tmod_bd k n (by omega)
  have hn : ¬ ((n : Int) = 0) := by omega
  by_cases h0 : k.tmod n < 0
  · have HR := Lib.hid (tmod_neg k n (by omega) h0)
    go_enter Try.func138, Try.ntmps138
    go_wp2
    go_ret
    exact ⟨ret_int HR.out, rfl⟩
  · have HR := Lib.hid (tmod_pos k n (by omega) (by omega))
    go_enter Try.func138, Try.ntmps138
    go_wp2
    go_ret
    exact ⟨ret_int HR.out, rfl⟩
set_option maxRecDepth 100000 in
theorem l2Mod_any (k : Int) (n : Nat) (w : World) (h1 : 1 ≤ n) (h2 : n ≤ 255) :
    Calls Try.prog 127 #[.int .i64 k, .int .i64 n] w fun e w' => e = .returned (.int .i64 (modN k n : Nat)) ∧ w = w' := by
  have hb := tmod_bd k n (by omega)
  have hn : ¬ ((n : Int) = 0) := by omega
  have HR := Lib.hid (tmod_twice k n (by omega))
  go_enter Try.func127, Try.ntmps127
  go_wp2
  go_ret
  exact ⟨ret_int HR.out, rfl⟩
end Go.Proofs.Ytlcnlhephhbhcaa
