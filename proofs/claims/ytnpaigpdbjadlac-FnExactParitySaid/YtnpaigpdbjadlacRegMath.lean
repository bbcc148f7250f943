/- Plain mathematics of shift registers: parity, steps and their bounds. No program in sight. -/
import Derived.WalkKit
namespace Go.Proofs.Ytnpaigpdbjadlac
open Go.RowKit

theorem and64 (a b : Nat) (ha : a < 9223372036854775808) (hb : b < 9223372036854775808) : bits .and .i64 (a : Int) (b : Int) = ((a &&& b : Nat) : Int) := by
  have hx : a &&& b < 2 ^ 63 := Nat.and_lt_two_pow _ (by omega)
  have h1 : (BitVec.ofInt 64 (a : Int)).toNat = a := by
    rw [BitVec.ofInt_natCast, BitVec.toNat_ofNat]; exact Nat.mod_eq_of_lt (by omega)
  have h2 : (BitVec.ofInt 64 (b : Int)).toNat = b := by
    rw [BitVec.ofInt_natCast, BitVec.toNat_ofNat]; exact Nat.mod_eq_of_lt (by omega)
  show IntKind.i64.wrap ((BitVec.ofInt 64 (a : Int) &&& BitVec.ofInt 64 (b : Int)).toNat : Int) = _
  rw [BitVec.toNat_and, h1, h2, IntKind.wrap_i64]
  omega
theorem or64 (a b : Nat) (ha : a < 9223372036854775808) (hb : b < 9223372036854775808) : bits .or .i64 (a : Int) (b : Int) = ((a ||| b : Nat) : Int) := by
  have hx : a ||| b < 2 ^ 63 := Nat.or_lt_two_pow (by omega) (by omega)
  have h1 : (BitVec.ofInt 64 (a : Int)).toNat = a := by
    rw [BitVec.ofInt_natCast, BitVec.toNat_ofNat]; exact Nat.mod_eq_of_lt (by omega)
  have h2 : (BitVec.ofInt 64 (b : Int)).toNat = b := by
    rw [BitVec.ofInt_natCast, BitVec.toNat_ofNat]; exact Nat.mod_eq_of_lt (by omega)
  show IntKind.i64.wrap ((BitVec.ofInt 64 (a : Int) ||| BitVec.ofInt 64 (b : Int)).toNat : Int) = _
  rw [BitVec.toNat_or, h1, h2, IntKind.wrap_i64]
  omega
theorem xor64 (a b : Nat) (ha : a < 9223372036854775808) (hb : b < 9223372036854775808) : bits .xor .i64 (a : Int) (b : Int) = ((a ^^^ b : Nat) : Int) := by
  have hx : a ^^^ b < 2 ^ 63 := Nat.xor_lt_two_pow (by omega) (by omega)
  have h1 : (BitVec.ofInt 64 (a : Int)).toNat = a := by
    rw [BitVec.ofInt_natCast, BitVec.toNat_ofNat]; exact Nat.mod_eq_of_lt (by omega)
  have h2 : (BitVec.ofInt 64 (b : Int)).toNat = b := by
    rw [BitVec.ofInt_natCast, BitVec.toNat_ofNat]; exact Nat.mod_eq_of_lt (by omega)
  show IntKind.i64.wrap ((BitVec.ofInt 64 (a : Int) ^^^ BitVec.ofInt 64 (b : Int)).toNat : Int) = _
  rw [BitVec.toNat_xor, h1, h2, IntKind.wrap_i64]
  omega
theorem and64_one (a : Nat) (ha : a < 9223372036854775808) : bits .and .i64 (a : Int) 1 = ((a % 2 : Nat) : Int) := by
  rw [show (1 : Int) = ((1 : Nat) : Int) from rfl, and64 a 1 ha (by omega), Nat.and_one_is_mod]
theorem xor_bit (a b : Nat) (ha : a < 2) (hb : b < 2) : a ^^^ b = (a + b) % 2 := by
  have : a = 0 ∨ a = 1 := by omega
  have : b = 0 ∨ b = 1 := by omega
  rcases ‹a = 0 ∨ a = 1› with rfl | rfl <;> rcases ‹b = 0 ∨ b = 1› with rfl | rfl <;> rfl
theorem xor64_bit (a b : Nat) (ha : a < 2) (hb : b < 2) : bits .xor .i64 (a : Int) (b : Int) = (((a + b) % 2 : Nat) : Int) := by
  rw [xor64 a b (by omega) (by omega), xor_bit a b ha hb]

/-- The sum, modulo 2, of the lowest f binary digits. -/
def parF : Nat → Nat → Nat
  | 0, _ => 0
  | f + 1, n => (n % 2 + parF f (n / 2)) % 2
theorem parF_lt : ∀ f n, parF f n < 2
  | 0, _ => by simp [parF]
  | _ + 1, _ => by simp only [parF]; omega
theorem parF_zero : ∀ f, parF f 0 = 0
  | 0 => rfl
  | f + 1 => by simp [parF, parF_zero f]
theorem parF_more : ∀ f n, n < 2 ^ f → parF (f + 1) n = parF f n
  | 0, n, h => by
    have : n = 0 := by simpa using h
    subst this; rfl
  | f + 1, n, h => by
    have := parF_more f (n / 2) (by rw [Nat.pow_succ] at h; omega)
    rw [parF, this]; rfl
/-- The sum, modulo 2, of the binary digits of a number below 2 to the power of 63. -/
def par (n : Nat) : Nat := parF 63 n
theorem par_lt (n : Nat) : par n < 2 := parF_lt _ _
theorem par_zero : par 0 = 0 := parF_zero _
theorem par_half (n : Nat) (h : n < 9223372036854775808) : par n = (n % 2 + par (n / 2)) % 2 := by
  have h1 := parF_more 63 n (by simpa using h)
  unfold par
  rw [← h1]; rfl

/-- A power of two. -/
def tw (s : Nat) : Nat := 2 ^ s
theorem tw_le (s : Nat) (h : s ≤ 8) : tw s ≤ 256 := by
  have : (2 : Nat) ^ s ≤ 2 ^ 8 := Nat.pow_le_pow_right (by omega) h
  simpa [tw] using this
theorem tw_pos (s : Nat) : 1 ≤ tw s := Nat.pos_of_ne_zero (by simp [tw])
theorem tw_succ (s : Nat) : tw (s + 1) = 2 * tw s := by unfold tw; rw [Nat.pow_succ]; omega
theorem tw_half (s : Nat) (h : 1 ≤ s) : tw s = 2 * tw (s - 1) := by
  obtain ⟨k, rfl⟩ : ∃ k, s = k + 1 := ⟨s - 1, by omega⟩
  exact tw_succ k
theorem tw_four (s : Nat) (h : 2 ≤ s) : 4 ≤ tw s := by
  have h1 := tw_half s (by omega)
  have h2 := tw_half (s - 1) (by omega)
  have h3 := tw_pos (s - 1 - 1)
  omega
theorem wrap_tw (s : Nat) (h : s ≤ 8) : wrap64 ((2 : Int) ^ s) = ((tw s : Nat) : Int) := by
  have : s = 0 ∨ s = 1 ∨ s = 2 ∨ s = 3 ∨ s = 4 ∨ s = 5 ∨ s = 6 ∨ s = 7 ∨ s = 8 := by omega
  rcases this with rfl | rfl | rfl | rfl | rfl | rfl | rfl | rfl | rfl <;> simp [wrap64, tw]
theorem int_tw (s : Nat) : (2 : Int) ^ s = ((tw s : Nat) : Int) := by simp [tw]

/-- The state after a step, and the state before one. -/
def stepN (S T X : Nat) : Nat := X / 2 + par (X &&& T) * tw (S - 1)
def backN (S T X : Nat) : Nat := X % tw (S - 1) * 2 + (X / tw (S - 1) + par ((X % tw (S - 1) * 2) &&& T)) % 2

/-- Are these numbers a size and taps? Are they a register? -/
def tapsB (S T : Int) : Bool := decide (2 ≤ S) && decide (S ≤ 8) && decide (1 ≤ T) && decide (T < tw S.toNat)
def regB (S T X : Int) : Bool := tapsB S T && decide (0 ≤ X) && decide (X < tw S.toNat)
theorem tapsB_iff (S T : Int) : tapsB S T = true ↔ 2 ≤ S ∧ S ≤ 8 ∧ 1 ≤ T ∧ T < tw S.toNat := by simp [tapsB, and_assoc]
theorem regB_iff (S T X : Int) : regB S T X = true ↔ 2 ≤ S ∧ S ≤ 8 ∧ 1 ≤ T ∧ T < tw S.toNat ∧ 0 ≤ X ∧ X < tw S.toNat := by simp [regB, tapsB, and_assoc]
/-- A register in natural numbers. -/
structure RegN (s t x : Nat) : Prop where
  lo : 2 ≤ s
  hi : s ≤ 8
  tap : 1 ≤ t
  tapLt : t < tw s
  lt : x < tw s
theorem RegN.of {S T X : Int} (h : regB S T X = true) : ∃ s t x : Nat, S = s ∧ T = t ∧ X = x ∧ RegN s t x := by
  obtain ⟨h1, h2, h3, h4, h5, h6⟩ := (regB_iff S T X).1 h
  exact ⟨S.toNat, T.toNat, X.toNat, by omega, by omega, by omega, by omega, by omega, by omega, by omega, by omega⟩
theorem RegN.valid {s t x : Nat} (h : RegN s t x) : regB s t x = true := by
  obtain ⟨h1, h2, h3, h4, h5⟩ := h
  rw [regB_iff]; simp only [Int.toNat_natCast]; omega

theorem half_lt (s X : Nat) (hs : 1 ≤ s) (h : X < tw s) : X / 2 < tw (s - 1) := by
  have := tw_half s hs
  omega
theorem stepN_lt (s T X : Nat) (hs : 1 ≤ s) (h : X < tw s) : stepN s T X < tw s := by
  have h1 := half_lt s X hs h
  have h2 := par_lt (X &&& T)
  have h3 := tw_half s hs
  unfold stepN
  rcases (show par (X &&& T) = 0 ∨ par (X &&& T) = 1 by omega) with e | e <;> rw [e] <;> omega
theorem backN_lt (s T X : Nat) (hs : 1 ≤ s) : backN s T X < tw s := by
  have h1 : X % tw (s - 1) < tw (s - 1) := Nat.mod_lt _ (tw_pos _)
  have h3 := tw_half s hs
  unfold backN
  omega
theorem RegN.step {s t x : Nat} (h : RegN s t x) : RegN s t (stepN s t x) := ⟨h.lo, h.hi, h.tap, h.tapLt, stepN_lt s t x (by have := h.lo; omega) h.lt⟩
theorem RegN.back {s t x : Nat} (h : RegN s t x) : RegN s t (backN s t x) := ⟨h.lo, h.hi, h.tap, h.tapLt, backN_lt s t x (by have := h.lo; omega)⟩
end Go.Proofs.Ytnpaigpdbjadlac
