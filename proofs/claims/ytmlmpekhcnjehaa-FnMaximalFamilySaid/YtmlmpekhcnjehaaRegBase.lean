/- Plain mathematics of shift registers: parity, steps and their bounds. No program in sight. Contracts of the small functions on registers: parity, powers of two, validity. Three stores in a register's block. -/
import Derived.Test.YtmlmpekhcnjehaaProg
import Derived.WalkKit
import Derived.WalkSpells
import Derived.Handy
import Derived.Outline
import Derived.Lib.Hide
import Derived.Deep.QuietTactic
import Derived.BigQuiet
import Derived.StillTailTactics
import Derived.Deep.RegionHeld3
namespace Go.Proofs.Ytmlmpekhcnjehaa
open Go.RowKit

theorem and64 (a b : Nat) (ha : a < 9223372036854775808) (hb : b < 9223372036854775808) : bits .and .i64 (a : Int) (b : Int) = ((a &&& b : Nat) : Int) := by
  have hx : a &&& b < 2 ^ 63 := Nat.and_lt_two_pow _ (by omega)
  have h1 : (BitVec.ofInt 64 (a : Int)).toNat = a := by
    rw [BitVec.ofInt_natCast, BitVec.toNat_ofNat]; exact Nat.mod_eq_of_lt (by omega)
  have h2 : (BitVec.ofInt 64 (b : Int)).toNat = b := by
    rw [BitVec.ofInt_natCast, BitVec.toNat_ofNat]; exact Nat.mod_eq_of_lt (by omega)
  show IntKind.i64.wrap ((BitVec.ofInt 64 (a : Int) &&& BitVec.ofInt 64 (b : Int)).toNat : Int) = _
  rw [BitVec.toNat_and, h1, h2, IntKind.wrap_i64]
  omega
theorem or64 (a b : Nat) (ha : a < 9223372036854775808) (hb : b < 9223372036854775808) : bits .or .i64 (a : Int) (b : Int) = ((a ||| b : Nat) : Int) := by
  have hx : a ||| b < 2 ^ 63 := Nat.or_lt_two_pow (by omega) (by omega)
  have h1 : (BitVec.ofInt 64 (a : Int)).toNat = a := by
    rw [BitVec.ofInt_natCast, BitVec.toNat_ofNat]; exact Nat.mod_eq_of_lt (by omega)
  have h2 : (BitVec.ofInt 64 (b : Int)).toNat = b := by
    rw [BitVec.ofInt_natCast, BitVec.toNat_ofNat]; exact Nat.mod_eq_of_lt (by omega)
  show IntKind.i64.wrap ((BitVec.ofInt 64 (a : Int) ||| BitVec.ofInt 64 (b : Int)).toNat : Int) = _
  rw [BitVec.toNat_or, h1, h2, IntKind.wrap_i64]
  omega
theorem xor64 (a b : Nat) (ha : a < 9223372036854775808) (hb : b < 9223372036854775808) : bits .xor .i64 (a : Int) (b : Int) = ((a ^^^ b : Nat) : Int) := by
  have hx : a ^^^ b < 2 ^ 63 := Nat.xor_lt_two_pow (by omega) (by omega)
  have h1 : (BitVec.ofInt 64 (a : Int)).toNat = a := by
    rw [BitVec.ofInt_natCast, BitVec.toNat_ofNat]; exact Nat.mod_eq_of_lt (by omega)
  have h2 : (BitVec.ofInt 64 (b : Int)).toNat = b := by
    rw [BitVec.ofInt_natCast, BitVec.toNat_ofNat]; exact Nat.mod_eq_of_lt (by omega)
  show IntKind.i64.wrap ((BitVec.ofInt 64 (a : Int) ^^^ BitVec.ofInt 64 (b : Int)).toNat : Int) = _
  rw [BitVec.toNat_xor, h1, h2, IntKind.wrap_i64]
  omega
theorem and64_one (a : Nat) (ha : a < 9223372036854775808) : bits .and .i64 (a : Int) 1 = ((a % 2 : Nat) : Int) := by
  rw [show (1 : Int) = ((1 : Nat) : Int) from rfl, and64 a 1 ha (by omega), Nat.and_one_is_mod]
theorem xor_bit (a b : Nat) (ha : a < 2) (hb : b < 2) : a ^^^ b = (a + b) % 2 := by
  have : a = 0 ∨ a = 1 := by omega
  have : b = 0 ∨ b = 1 := by omega
  rcases ‹a = 0 ∨ a = 1› with rfl | rfl <;> rcases ‹b = 0 ∨ b = 1› with rfl | rfl <;> rfl
theorem xor64_bit (a b : Nat) (ha : a < 2) (hb : b < 2) : bits .xor .i64 (a : Int) (b : Int) = (((a + b) % 2 : Nat) : Int) := by
  rw [xor64 a b (by omega) (by omega), xor_bit a b ha hb]

/-- The sum, modulo 2, of the lowest f binary digits. -/
def parF : Nat → Nat → Nat
  | 0, _ => 0
  | f + 1, n => (n % 2 + parF f (n / 2)) % 2
theorem parF_lt : ∀ f n, parF f n < 2
  | 0, _ => by simp [parF]
  | _ + 1, _ => by simp only [parF]; omega
theorem parF_zero : ∀ f, parF f 0 = 0
  | 0 => rfl
  | f + 1 => by simp [parF, parF_zero f]
theorem parF_more : ∀ f n, n < 2 ^ f → parF (f + 1) n = parF f n
  | 0, n, h => by
    have : n = 0 := by simpa using h
    subst this; rfl
  | f + 1, n, h => by
    have := parF_more f (n / 2) (by rw [Nat.pow_succ] at h; omega)
    rw [parF, this]; rfl
/-- The sum, modulo 2, of the binary digits of a number below 2 to the power of 63. -/
def par (n : Nat) : Nat := parF 63 n
theorem par_lt (n : Nat) : par n < 2 := parF_lt _ _
theorem par_zero : par 0 = 0 := parF_zero _
theorem par_half (n : Nat) (h : n < 9223372036854775808) : par n = (n % 2 + par (n / 2)) % 2 := by
  have h1 := parF_more 63 n (by simpa using h)
  unfold par
  rw [← h1]; rfl

/-- A power of two. -/
def tw (s : Nat) : Nat := 2 ^ s
theorem tw_le (s : Nat) (h : s ≤ 8) : tw s ≤ 256 := by
  have : (2 : Nat) ^ s ≤ 2 ^ 8 := Nat.pow_le_pow_right (by omega) h
  simpa [tw] using this
theorem tw_pos (s : Nat) : 1 ≤ tw s := Nat.pos_of_ne_zero (by simp [tw])
theorem tw_succ (s : Nat) : tw (s + 1) = 2 * tw s := by unfold tw; rw [Nat.pow_succ]; omega
theorem tw_half (s : Nat) (h : 1 ≤ s) : tw s = 2 * tw (s - 1) := by
  obtain ⟨k, rfl⟩ : ∃ k, s = k + 1 := ⟨s - 1, by omega⟩
  exact tw_succ k
theorem tw_four (s : Nat) (h : 2 ≤ s) : 4 ≤ tw s := by
  have h1 := tw_half s (by omega)
  have h2 := tw_half (s - 1) (by omega)
  have h3 := tw_pos (s - 1 - 1)
  omega
theorem wrap_tw (s : Nat) (h : s ≤ 8) : wrap64 ((2 : Int) ^ s) = ((tw s : Nat) : Int) := by
  have : s = 0 ∨ s = 1 ∨ s = 2 ∨ s = 3 ∨ s = 4 ∨ s = 5 ∨ s = 6 ∨ s = 7 ∨ s = 8 := by omega
  rcases this with rfl | rfl | rfl | rfl | rfl | rfl | rfl | rfl | rfl <;> simp [wrap64, tw]
theorem int_tw (s : Nat) : (2 : Int) ^ s = ((tw s : Nat) : Int) := by simp [tw]

/-- The state after a step, and the state before one. -/
def stepN (S T X : Nat) : Nat := X / 2 + par (X &&& T) * tw (S - 1)
def backN (S T X : Nat) : Nat := X % tw (S - 1) * 2 + (X / tw (S - 1) + par ((X % tw (S - 1) * 2) &&& T)) % 2

/-- Are these numbers a size and taps? Are they a register? -/
def tapsB (S T : Int) : Bool := decide (2 ≤ S) && decide (S ≤ 8) && decide (1 ≤ T) && decide (T < tw S.toNat)
def regB (S T X : Int) : Bool := tapsB S T && decide (0 ≤ X) && decide (X < tw S.toNat)
theorem tapsB_iff (S T : Int) : tapsB S T = true ↔ 2 ≤ S ∧ S ≤ 8 ∧ 1 ≤ T ∧ T < tw S.toNat := by simp [tapsB, and_assoc]
theorem regB_iff (S T X : Int) : regB S T X = true ↔ 2 ≤ S ∧ S ≤ 8 ∧ 1 ≤ T ∧ T < tw S.toNat ∧ 0 ≤ X ∧ X < tw S.toNat := by simp [regB, tapsB, and_assoc]
/-- A register in natural numbers. -/
structure RegN (s t x : Nat) : Prop where
  lo : 2 ≤ s
  hi : s ≤ 8
  tap : 1 ≤ t
  tapLt : t < tw s
  lt : x < tw s
theorem RegN.of {S T X : Int} (h : regB S T X = true) : ∃ s t x : Nat, S = s ∧ T = t ∧ X = x ∧ RegN s t x := by
  obtain ⟨h1, h2, h3, h4, h5, h6⟩ := (regB_iff S T X).1 h
  exact ⟨S.toNat, T.toNat, X.toNat, by omega, by omega, by omega, by omega, by omega, by omega, by omega, by omega⟩
theorem RegN.valid {s t x : Nat} (h : RegN s t x) : regB s t x = true := by
  obtain ⟨h1, h2, h3, h4, h5⟩ := h
  rw [regB_iff]; simp only [Int.toNat_natCast]; omega

theorem half_lt (s X : Nat) (hs : 1 ≤ s) (h : X < tw s) : X / 2 < tw (s - 1) := by
  have := tw_half s hs
  omega
theorem stepN_lt (s T X : Nat) (hs : 1 ≤ s) (h : X < tw s) : stepN s T X < tw s := by
  have h1 := half_lt s X hs h
  have h2 := par_lt (X &&& T)
  have h3 := tw_half s hs
  unfold stepN
  rcases (show par (X &&& T) = 0 ∨ par (X &&& T) = 1 by omega) with e | e <;> rw [e] <;> omega
theorem backN_lt (s T X : Nat) (hs : 1 ≤ s) : backN s T X < tw s := by
  have h1 : X % tw (s - 1) < tw (s - 1) := Nat.mod_lt _ (tw_pos _)
  have h3 := tw_half s hs
  unfold backN
  omega
theorem RegN.step {s t x : Nat} (h : RegN s t x) : RegN s t (stepN s t x) := ⟨h.lo, h.hi, h.tap, h.tapLt, stepN_lt s t x (by have := h.lo; omega) h.lt⟩
theorem RegN.back {s t x : Nat} (h : RegN s t x) : RegN s t (backN s t x) := ⟨h.lo, h.hi, h.tap, h.tapLt, backN_lt s t x (by have := h.lo; omega)⟩
theorem step_value (k t x : Nat) (hk : k + 1 ≤ 8) (hx : x < tw (k + 1)) :
    bits .or .i64 ((x : Int) / 2) (IntKind.i64.wrap (((par (x &&& t) : Nat) : Int) * 2 ^ k)) = ((stepN (k + 1) t x : Nat) : Int) := by
  have h1 := half_lt (k + 1) x (by omega) hx
  simp only [Nat.add_sub_cancel] at h1
  have h2 := par_lt (x &&& t)
  have h3 := tw_le k (by omega)
  have h4 : par (x &&& t) * tw k ≤ 1 * tw k := Nat.mul_le_mul_right _ (by omega)
  have e1 : ((par (x &&& t) : Nat) : Int) * 2 ^ k = ((par (x &&& t) * tw k : Nat) : Int) := by rw [int_tw]; push_cast; rfl
  rw [e1, IntWalk.i64_in _ (by omega), show (x : Int) / 2 = ((x / 2 : Nat) : Int) by omega, or64 _ _ (by omega) (by omega)]
  unfold stepN
  simp only [Nat.add_sub_cancel]
  rw [Nat.or_comm, nat_join k _ _ (by simp [tw]) (by simpa [tw] using h1)]
  omega
theorem sstep_value (k t x : Nat) (hk : k + 1 ≤ 8) (hx : x < tw (k + 1)) :
    IntKind.i64.wrap (IntKind.i64.wrap ((x : Int) / 2) + IntKind.i64.wrap (((par (x &&& t) : Nat) : Int) * ((tw k : Nat) : Int))) = ((stepN (k + 1) t x : Nat) : Int) := by
  have h1 := half_lt (k + 1) x (by omega) hx
  simp only [Nat.add_sub_cancel] at h1
  have h2 := par_lt (x &&& t)
  have h3 := tw_le k (by omega)
  have h4 : par (x &&& t) * tw k ≤ 1 * tw k := Nat.mul_le_mul_right _ (by omega)
  have e1 : ((par (x &&& t) : Nat) : Int) * ((tw k : Nat) : Int) = ((par (x &&& t) * tw k : Nat) : Int) := by push_cast; rfl
  rw [e1, IntWalk.i64_in ((x : Int) / 2) (by omega), IntWalk.i64_in ((par (x &&& t) * tw k : Nat) : Int) (by omega), IntWalk.i64_in _ (by omega)]
  unfold stepN
  simp only [Nat.add_sub_cancel]
  omega
theorem back_value1 (k x : Nat) (hk : k + 1 ≤ 8) (hx : x < tw (k + 1)) :
    bits .and .i64 (IntKind.i64.wrap ((x : Int) * 2)) (IntKind.i64.wrap (IntKind.i64.wrap (2 ^ (k + 1)) - 1)) = ((x % tw k * 2 : Nat) : Int) := by
  have h1 := tw_le (k + 1) hk
  have h2 := tw_pos (k + 1)
  have h3 := tw_succ k
  rw [int_tw, IntWalk.i64_in ((tw (k + 1) : Nat) : Int) (by omega), IntWalk.i64_in ((x : Int) * 2) (by omega), IntWalk.i64_in _ (by omega)]
  rw [show (x : Int) * 2 = ((2 * x : Nat) : Int) by omega, show ((tw (k + 1) : Nat) : Int) - 1 = ((tw (k + 1) - 1 : Nat) : Int) by omega, and64 _ _ (by omega) (by omega)]
  have h4 : 2 * x &&& (tw (k + 1) - 1) = 2 * x % tw (k + 1) := Nat.and_two_pow_sub_one_eq_mod (2 * x) (k + 1)
  rw [h4, h3, Nat.mul_mod_mul_left]
  omega
theorem back_value2 (k t x y : Nat) (hk : k + 1 ≤ 8) (hx : x < tw (k + 1)) (hy : x % tw k * 2 = y) :
    bits .or .i64 (y : Int) (bits .xor .i64 ((x : Int) / 2 ^ k) ((par (y &&& t) : Nat) : Int)) = ((backN (k + 1) t x : Nat) : Int) := by
  have h1 := tw_le (k + 1) hk
  have h2 := tw_pos k
  have h3 := tw_succ k
  have h4 : x / tw k < 2 := by rw [Nat.div_lt_iff_lt_mul (by omega)]; omega
  have h5 := par_lt (y &&& t)
  have h6 : x % tw k < tw k := Nat.mod_lt _ (by omega)
  rw [int_tw, ← Int.natCast_ediv, xor64_bit _ _ h4 h5, or64 _ _ (by omega) (by omega)]
  have h7 := nat_join 1 y ((x / tw k + par (y &&& t)) % 2) (by omega) (by omega)
  rw [h7]
  unfold backN
  simp only [Nat.add_sub_cancel]
  rw [hy]
/-- n steps forth, n steps back. -/
def stepsN (s t : Nat) : Nat → Nat → Nat
  | 0, x => x
  | n + 1, x => stepN s t (stepsN s t n x)
def backsN (s t : Nat) : Nat → Nat → Nat
  | 0, x => x
  | n + 1, x => backN s t (backsN s t n x)
theorem RegN.steps {s t x : Nat} (h : RegN s t x) : ∀ n, RegN s t (stepsN s t n x)
  | 0 => h
  | n + 1 => (h.steps n).step
theorem RegN.backs {s t x : Nat} (h : RegN s t x) : ∀ n, RegN s t (backsN s t n x)
  | 0 => h
  | n + 1 => (h.backs n).back
/-- The state after k steps, or after -k steps back. -/
def jumpN (s t : Nat) (k : Int) (x : Nat) : Nat := if 0 ≤ k then stepsN s t k.toNat x else backsN s t (-k).toNat x
theorem RegN.jump {s t x : Nat} (h : RegN s t x) (k : Int) : RegN s t (jumpN s t k x) := by
  unfold jumpN; split
  · exact h.steps _
  · exact h.backs _
/-- May a register of these taps jump by k? -/
def jumpB (t : Nat) (k : Int) : Bool := decide (-5000 ≤ k) && decide (k ≤ 5000) && (decide (0 ≤ k) || decide (t % 2 = 1))
theorem sback_vals (k x : Nat) (hk : k + 1 ≤ 8) (hx : x < tw (k + 1)) : ∃ u y : Nat, u < 2 ∧ y < 256 ∧ x / tw k = u ∧ x % tw k * 2 = y ∧
    wrap64 ((x : Int) / ((tw k : Nat) : Int)) = u ∧ IntKind.i64.wrap ((x : Int) / ((tw k : Nat) : Int)) = u ∧
    wrap64 ((x : Int) % ((tw k : Nat) : Int) * 2) = y ∧ IntKind.i64.wrap ((x : Int) % ((tw k : Nat) : Int) * 2) = y := by
  have h1 := tw_le (k + 1) hk
  have h2 := tw_pos k
  have h3 := tw_succ k
  have h4 : x / tw k < 2 := by rw [Nat.div_lt_iff_lt_mul (by omega)]; omega
  have h5 := Nat.mod_lt x (tw_pos k)
  have e1 : (x : Int) / ((tw k : Nat) : Int) = ((x / tw k : Nat) : Int) := (Int.natCast_ediv _ _).symm
  have e2 : (x : Int) % ((tw k : Nat) : Int) * 2 = ((x % tw k * 2 : Nat) : Int) := by rw [Int.natCast_mul, Int.natCast_emod]; rfl
  rw [e1, e2]
  obtain ⟨u, hu⟩ : ∃ u, x / tw k = u := ⟨_, rfl⟩
  obtain ⟨y, hy⟩ : ∃ y, x % tw k * 2 = y := ⟨_, rfl⟩
  have h6 : y < 256 := by omega
  rw [hu, hy]
  rw [hu] at h4
  clear e1 e2
  refine ⟨u, y, h4, h6, rfl, rfl, ?_, ?_, ?_, ?_⟩
  · exact IntWalk.wrap64_in _ (by omega)
  · exact IntWalk.i64_in _ (by omega)
  · exact IntWalk.wrap64_in _ (by omega)
  · exact IntWalk.i64_in _ (by omega)
theorem xor_half (n m : Nat) : (n ^^^ m) / 2 = n / 2 ^^^ m / 2 := by
  have := Nat.shiftRight_xor_distrib (a := n) (b := m) (i := 1)
  simpa [Nat.shiftRight_succ] using this
theorem xor_low (n m : Nat) : (n ^^^ m) % 2 = (n % 2 + m % 2) % 2 := by
  have h := Nat.xor_mod_two_pow (a := n) (b := m) (n := 1)
  simp only [Nat.pow_one] at h
  rw [h]
  exact xor_bit _ _ (by omega) (by omega)
theorem parF_xor : ∀ f n m, parF f (n ^^^ m) = (parF f n + parF f m) % 2
  | 0, _, _ => rfl
  | f + 1, n, m => by
    simp only [parF]
    rw [xor_half, xor_low, parF_xor f]
    omega
theorem par_xor (n m : Nat) : par (n ^^^ m) = (par n + par m) % 2 := parF_xor _ _ _
theorem par_double (n : Nat) (h : n ≤ 4611686018427387903) : par (2 * n) = par n := by
  have := par_lt n
  rw [par_half (2 * n) (by omega), show 2 * n % 2 = 0 by omega, show 2 * n / 2 = n by omega]; omega
theorem par_odd (n : Nat) (h : n ≤ 4611686018427387903) : par (2 * n + 1) = 1 - par n := by
  have := par_lt n
  rw [par_half (2 * n + 1) (by omega), show (2 * n + 1) % 2 = 1 by omega, show (2 * n + 1) / 2 = n by omega]; omega
theorem and_half (n m : Nat) : (n &&& m) / 2 = n / 2 &&& m / 2 := by
  have := Nat.shiftRight_and_distrib (a := n) (b := m) (i := 1)
  simpa [Nat.shiftRight_succ] using this
theorem and_odd (n m : Nat) (h : m % 2 = 1) : (n &&& m) % 2 = n % 2 := by
  have h1 := Nat.and_mod_two_pow (a := n) (b := m) (n := 1)
  simp only [Nat.pow_one] at h1
  rw [h1, h]
  have : n % 2 = 0 ∨ n % 2 = 1 := by omega
  rcases this with e | e <;> rw [e] <;> rfl
/-- Where the cell 0 has a tap: what is in it turns the sum. -/
theorem par_low (y b t : Nat) (hy : y % 2 = 0) (hb : b < 2) (ht : t % 2 = 1) (h : y + b < 9223372036854775808) : par ((y + b) &&& t) = (b + par (y &&& t)) % 2 := by
  have h1 : (y + b) &&& t ≤ y + b := Nat.and_le_left
  have h2 : y &&& t ≤ y := Nat.and_le_left
  have h3 := par_lt ((y / 2) &&& (t / 2))
  rw [par_half ((y + b) &&& t) (by omega), par_half (y &&& t) (by omega), and_odd _ _ ht, and_odd _ _ ht, and_half, and_half]
  rw [show (y + b) / 2 = y / 2 by omega, show (y + b) % 2 = b by omega, hy]
  omega
theorem step_back (s t x : Nat) (hr : RegN s t x) (ho : t % 2 = 1) : stepN s t (backN s t x) = x := by
  obtain ⟨k, rfl⟩ : ∃ k, s = k + 1 := ⟨s - 1, by have := hr.lo; omega⟩
  obtain ⟨h1, h2, h3, h4, h5⟩ := hr
  have h6 := tw_le (k + 1) h2
  have h7 := tw_pos k
  have h8 := tw_succ k
  have hm := Nat.mod_lt x (tw_pos k)
  have hd : x / tw k < 2 := by rw [Nat.div_lt_iff_lt_mul (by omega)]; omega
  have hx : tw k * (x / tw k) + x % tw k = x := Nat.div_add_mod x (tw k)
  unfold stepN backN
  simp only [Nat.add_sub_cancel]
  obtain ⟨r, hr'⟩ : ∃ r, x % tw k = r := ⟨_, rfl⟩
  obtain ⟨u, hu⟩ : ∃ u, x / tw k = u := ⟨_, rfl⟩
  rw [hr'] at hm hx ⊢
  rw [hu] at hd hx ⊢
  obtain ⟨q, hq⟩ : ∃ q, par (r * 2 &&& t) = q := ⟨_, rfl⟩
  have hq2 : q < 2 := by rw [← hq]; exact par_lt _
  rw [hq, par_low (r * 2) _ t (by omega) (by omega) ho (by omega), hq]
  rw [show (r * 2 + (u + q) % 2) / 2 = r by omega, show ((u + q) % 2 + q) % 2 = u by omega, Nat.mul_comm u]
  omega
theorem back_step (s t x : Nat) (hr : RegN s t x) (ho : t % 2 = 1) : backN s t (stepN s t x) = x := by
  obtain ⟨k, rfl⟩ : ∃ k, s = k + 1 := ⟨s - 1, by have := hr.lo; omega⟩
  obtain ⟨h1, h2, h3, h4, h5⟩ := hr
  have h6 := tw_le (k + 1) h2
  have h7 := tw_pos k
  have hl := half_lt (k + 1) x (by omega) h5
  simp only [Nat.add_sub_cancel] at hl
  unfold stepN backN
  simp only [Nat.add_sub_cancel]
  obtain ⟨p, hp⟩ : ∃ p, par (x &&& t) = p := ⟨_, rfl⟩
  rw [hp]
  have e1 : (x / 2 + p * tw k) % tw k = x / 2 := by rw [Nat.add_mul_mod_self_right]; exact Nat.mod_eq_of_lt hl
  have e2 : (x / 2 + p * tw k) / tw k = p := by rw [Nat.add_mul_div_right _ _ (by omega), Nat.div_eq_of_lt hl]; omega
  rw [e1, e2]
  have h8 := par_low (x / 2 * 2) (x % 2) t (by omega) (by omega) ho (by omega)
  rw [show x / 2 * 2 + x % 2 = x by omega, hp] at h8
  have h9 := par_lt (x / 2 * 2 &&& t)
  omega
theorem steps_add (s t x : Nat) : ∀ m n, stepsN s t (m + n) x = stepsN s t m (stepsN s t n x)
  | 0, n => by rw [Nat.zero_add]; rfl
  | m + 1, n => by rw [Nat.add_right_comm]; simp only [stepsN]; rw [steps_add s t x m n]
theorem steps_one (s t x n : Nat) : stepsN s t n (stepN s t x) = stepsN s t (n + 1) x := (steps_add s t x n 1).symm
theorem backs_one (s t : Nat) : ∀ n x, backsN s t n (backN s t x) = backsN s t (n + 1) x
  | 0, _ => rfl
  | n + 1, x => by simp only [backsN]; rw [backs_one s t n x]; rfl
theorem backs_steps {s t x : Nat} (h : RegN s t x) (ho : t % 2 = 1) : ∀ n, backsN s t n (stepsN s t n x) = x
  | 0 => rfl
  | n + 1 => by rw [← backs_one]; simp only [stepsN]; rw [back_step s t _ (h.steps n) ho]; exact backs_steps h ho n
theorem steps_backs {s t x : Nat} (h : RegN s t x) (ho : t % 2 = 1) : ∀ n, stepsN s t n (backsN s t n x) = x
  | 0 => rfl
  | n + 1 => by rw [← steps_one]; simp only [backsN]; rw [step_back s t _ (h.backs n) ho]; exact steps_backs h ho n
end Go.Proofs.Ytmlmpekhcnjehaa
namespace Go.Proofs.Ytmlmpekhcnjehaa
open Go.RowKit

theorem quiet_same {P : Program} {f : FuncId} {args : Array Value} {w : World} {n : Nat} {v : Value}
    (h : Calls P f args (w.drewN n) fun e w' => e = .returned v ∧ w.drewN n = w') : Calls P f args (w.drewN n) fun e w'' => e = .returned v ∧ ∃ m, w'' = w.drewN m :=
  h.mono fun _ _ ⟨he, hm⟩ => ⟨he, n, hm.symm⟩
theorem below_drewN {B : Nat} {a w : World} (h : Below B a w) (n : Nat) : Below B a (w.drewN n) := ⟨h.os, h.tape, h.output, h.size, h.block⟩
theorem grownBy_drewN' (w : World) (n : Nat) (row : Option Nat) : w.grownBy (w.drewN n) row := ⟨rfl, rfl, rfl, Nat.le_refl _, fun _ _ _ => rfl⟩
theorem same_of {P : Program} {f : FuncId} {args : Array Value} {w : World} {r : Ending} (h : Calls P f args w fun e w' => e = r ∧ w = w') : Calls P f args w fun e w' => e = r ∧ w' = w :=
  h.mono fun _ _ ⟨he, hm⟩ => ⟨he, hm.symm⟩
theorem ret_int {k : IntKind} {a b : Int} (h : a = b) : Ending.returned (.int k a) = .returned (.int k b) := by rw [h]

set_option maxHeartbeats 400000 in
set_option maxRecDepth 100000 in
theorem l1Parity_any (n : Nat) (w : World) (h : n ≤ 9223372036854775807) :
    Calls Try.prog 93 #[.int .i64 n] w fun e w' => e = .returned (.int .i64 (par n : Nat)) ∧ w = w' := by
  go_enter Try.func93, Try.ntmps93
  go_wp2
  go_loop [3, 0] (fun out m' => ∃ m s : Nat, m ≤ 9223372036854775807 ∧ s < 2 ∧ m' = .int .i64 m ∧ out = .int .i64 s ∧ (s + par m) % 2 = par n) (fun _ m' => (intOf m').toNat)
  case atStart => exact ⟨n, 0, h, by omega, rfl, rfl, by have := par_lt n; omega⟩
  case round =>
    obtain ⟨m, s, hm, hs, rfl, rfl, hp⟩ := hrel
    have HP := Lib.hid hp
    clear hp
    by_cases hz : 0 < m
    · have hx := xor64_bit s (m % 2) hs (by omega)
      rw [show ((m % 2 : Nat) : Int) = (m : Int) % 2 by omega] at hx
      have HX := Lib.hid hx
      clear hx
      go_wp2
      go_round
      case rel =>
        refine ⟨m / 2, (s + m % 2) % 2, by omega, by omega, by go_num, ?_, ?_⟩
        · rw [HX.out]
        · have := HP.out
          rw [par_half m (by omega)] at this
          omega
      case measure => simp [intOf]; omega
    · obtain rfl : m = 0 := by omega
      go_wp2
      go_ret
      exact ⟨ret_int (by have := HP.out; rw [par_zero] at this; omega), rfl⟩
set_option maxHeartbeats 400000 in
set_option maxRecDepth 100000 in
theorem parity_any (n : Nat) (w : World) (h : n ≤ 9223372036854775807) :
    Calls Try.prog 76 #[.int .i64 n] w fun e w' => e = .returned (.int .i64 (par n : Nat)) ∧ w = w' := by
  have hn : ¬ ((n : Int) < 0) := by omega
  go_enter Try.func76, Try.ntmps76
  go_wp2
  go_loop [3, 0] (fun out m' => ∃ m s : Nat, m ≤ 9223372036854775807 ∧ s < 2 ∧ m' = .int .i64 m ∧ out = .int .i64 s ∧ (s + par m) % 2 = par n) (fun _ m' => (intOf m').toNat)
  case atStart => exact ⟨n, 0, h, by omega, rfl, rfl, by have := par_lt n; omega⟩
  case round =>
    obtain ⟨m, s, hm, hs, rfl, rfl, hp⟩ := hrel
    have HP := Lib.hid hp
    clear hp
    by_cases hz : 0 < m
    · have hx := xor64_bit s (m % 2) hs (by omega)
      rw [← and64_one m (by omega)] at hx
      have HX := Lib.hid hx
      clear hx
      go_wp2
      go_round
      case rel =>
        refine ⟨m / 2, (s + m % 2) % 2, by omega, by omega, by go_num, ?_, ?_⟩
        · rw [HX.out]
        · have := HP.out
          rw [par_half m (by omega)] at this
          omega
      case measure => simp [intOf]; omega
    · obtain rfl : m = 0 := by omega
      go_wp2
      go_ret
      exact ⟨ret_int (by have := HP.out; rw [par_zero] at this; omega), rfl⟩
set_option maxRecDepth 100000 in
theorem parity_neg (n : Int) (w : World) (h : n < 0) :
    Calls Try.prog 76 #[.int .i64 n] w fun e w' => e = .returned (.int .i64 (-1)) ∧ w = w' := by
  go_enter Try.func76, Try.ntmps76
  go_wp2
  go_ret
  exact ⟨rfl, rfl⟩
theorem ret_bool {a b : Bool} (h : a = b) : Ending.returned (.bool a) = .returned (.bool b) := by rw [h]
set_option maxRecDepth 100000 in
theorem l1Two_any (s : Nat) (w : World) (h : s ≤ 8) :
    Calls Try.prog 58 #[.int .i64 s] w fun e w' => e = .returned (.int .i64 (tw s : Nat)) ∧ w = w' := by
  go_enter Try.func58, Try.ntmps58
  go_wp2
  go_ret
  exact ⟨ret_int (wrap_tw s h), rfl⟩
set_option maxRecDepth 100000 in
theorem l1In_any (n lo hi : Int) (w : World) :
    Calls Try.prog 64 #[.int .i64 n, .int .i64 lo, .int .i64 hi] w fun e w' => e = .returned (.bool (decide (lo ≤ n) && decide (n ≤ hi))) ∧ w = w' := by
  by_cases h1 : lo ≤ n
  · go_enter Try.func64, Try.ntmps64
    go_wp2
    go_ret
    exact ⟨ret_bool (by simp [h1]), rfl⟩
  · go_enter Try.func64, Try.ntmps64
    go_wp2
    go_ret
    exact ⟨ret_bool (by rw [decide_eq_false (by omega : ¬ lo ≤ n)]; rfl), rfl⟩
set_option maxRecDepth 100000 in
theorem sizeValid_any (S : Int) (w : World) :
    Calls Try.prog 28 #[.int .i64 S] w fun e w' => e = .returned (.bool (decide (2 ≤ S) && decide (S ≤ 8))) ∧ w = w' := by
  by_cases h1 : 2 ≤ S
  · go_enter Try.func28, Try.ntmps28
    go_wp2
    go_ret
    exact ⟨ret_bool (by simp [h1]), rfl⟩
  · go_enter Try.func28, Try.ntmps28
    go_wp2
    go_ret
    exact ⟨ret_bool (by rw [decide_eq_false (by omega : ¬ 2 ≤ S)]; rfl), rfl⟩
theorem in_yes {n lo hi : Int} (h1 : lo ≤ n) (h2 : n ≤ hi) : (decide (lo ≤ n) && decide (n ≤ hi)) = true := by simp [h1, h2]
theorem in_no {n lo hi : Int} (h : ¬ (lo ≤ n ∧ n ≤ hi)) : (decide (lo ≤ n) && decide (n ≤ hi)) = false := by
  by_cases h1 : lo ≤ n
  · have h2 : ¬ n ≤ hi := fun h2 => h ⟨h1, h2⟩
    simp only [h1, h2, decide_true, decide_false, Bool.and_false]
  · simp only [h1, decide_false, Bool.false_and]
theorem l1In_yes (n lo hi : Int) (w : World) (h1 : lo ≤ n) (h2 : n ≤ hi) :
    Calls Try.prog 64 #[.int .i64 n, .int .i64 lo, .int .i64 hi] w fun e w' => e = .returned (.bool true) ∧ w = w' := by
  rw [← in_yes h1 h2]; exact l1In_any n lo hi w
theorem l1In_no (n lo hi : Int) (w : World) (h : ¬ (lo ≤ n ∧ n ≤ hi)) :
    Calls Try.prog 64 #[.int .i64 n, .int .i64 lo, .int .i64 hi] w fun e w' => e = .returned (.bool false) ∧ w = w' := by
  rw [← in_no h]; exact l1In_any n lo hi w
theorem sizeValid_yes (S : Int) (w : World) (h1 : 2 ≤ S) (h2 : S ≤ 8) :
    Calls Try.prog 28 #[.int .i64 S] w fun e w' => e = .returned (.bool true) ∧ w = w' := by
  rw [← in_yes h1 h2]; exact sizeValid_any S w
theorem sizeValid_no (S : Int) (w : World) (h : ¬ (2 ≤ S ∧ S ≤ 8)) :
    Calls Try.prog 28 #[.int .i64 S] w fun e w' => e = .returned (.bool false) ∧ w = w' := by
  rw [← in_no h]; exact sizeValid_any S w
theorem taps_out {S T : Int} (h : ¬ (2 ≤ S ∧ S ≤ 8)) : false = tapsB S T := by
  cases hb : tapsB S T with
  | false => rfl
  | true => obtain ⟨h1, h2, _⟩ := (tapsB_iff S T).1 hb; exact absurd ⟨h1, h2⟩ h
theorem taps_in {s : Nat} {T : Int} (h1 : 2 ≤ s) (h2 : s ≤ 8) : (decide (1 ≤ T) && decide (T < tw s)) = tapsB s T := by
  rw [Bool.eq_iff_iff, tapsB_iff]; simp; omega
set_option maxRecDepth 100000 in
theorem l1Taps_any (S T : Int) (w : World) :
    Calls Try.prog 45 #[.int .i64 S, .int .i64 T] w fun e w' => e = .returned (.bool (tapsB S T)) ∧ w = w' := by
  by_cases h1 : 2 ≤ S ∧ S ≤ 8
  · obtain ⟨h2, h3⟩ := h1
    obtain ⟨s, rfl⟩ : ∃ s : Nat, S = s := ⟨S.toNat, by omega⟩
    have hb := tw_le s (by omega)
    have hp := tw_pos s
    go_enter Try.func45, Try.ntmps45
    go_wp2_with (first | (go_at_call 64; refine (l1In_any _ _ _ _).mono ?_; rintro e w' ⟨rfl, rfl⟩) | (go_at_call 58; refine (l1Two_any _ _ (by omega)).mono ?_; rintro e w' ⟨rfl, rfl⟩))
    go_ret
    exact ⟨ret_bool (by rw [← taps_in (by omega) (by omega), Bool.eq_iff_iff]; simp; omega), rfl⟩
  · go_enter Try.func45, Try.ntmps45
    go_wp2_with (first | (go_at_call 64; refine (l1In_no _ _ _ _ h1).mono ?_; rintro e w' ⟨rfl, rfl⟩))
    go_ret
    exact ⟨ret_bool (taps_out h1), rfl⟩
set_option maxRecDepth 100000 in
theorem tapsValid_any (S T : Int) (w : World) :
    Calls Try.prog 36 #[.int .i64 S, .int .i64 T] w fun e w' => e = .returned (.bool (tapsB S T)) ∧ w = w' := by
  by_cases h1 : 2 ≤ S ∧ S ≤ 8
  · obtain ⟨h2, h3⟩ := h1
    obtain ⟨s, rfl⟩ : ∃ s : Nat, S = s := ⟨S.toNat, by omega⟩
    have hb := tw_le s (by omega)
    have hp := tw_pos s
    have e2 := wrap_tw s (by omega)
    by_cases h4 : 0 < T
    · go_enter Try.func36, Try.ntmps36
      go_wp2_with (first | (go_at_call 28; refine (sizeValid_yes _ _ (by omega) (by omega)).mono ?_; rintro e w' ⟨rfl, rfl⟩))
      go_ret
      exact ⟨ret_bool (by rw [← taps_in (by omega) (by omega)]; simp; omega), rfl⟩
    · go_enter Try.func36, Try.ntmps36
      go_wp2_with (first | (go_at_call 28; refine (sizeValid_yes _ _ (by omega) (by omega)).mono ?_; rintro e w' ⟨rfl, rfl⟩))
      go_ret
      exact ⟨ret_bool (by rw [← taps_in (by omega) (by omega)]; simp; omega), rfl⟩
  · go_enter Try.func36, Try.ntmps36
    go_wp2_with (first | (go_at_call 28; refine (sizeValid_no _ _ h1).mono ?_; rintro e w' ⟨rfl, rfl⟩))
    go_ret
    exact ⟨ret_bool (taps_out h1), rfl⟩
theorem tapsValid_yes (S T : Int) (w : World) (h : tapsB S T = true) :
    Calls Try.prog 36 #[.int .i64 S, .int .i64 T] w fun e w' => e = .returned (.bool true) ∧ w = w' := by
  rw [← h]; exact tapsValid_any S T w
theorem tapsValid_no (S T : Int) (w : World) (h : tapsB S T = false) :
    Calls Try.prog 36 #[.int .i64 S, .int .i64 T] w fun e w' => e = .returned (.bool false) ∧ w = w' := by
  rw [← h]; exact tapsValid_any S T w
theorem l1Taps_yes (S T : Int) (w : World) (h : tapsB S T = true) :
    Calls Try.prog 45 #[.int .i64 S, .int .i64 T] w fun e w' => e = .returned (.bool true) ∧ w = w' := by
  rw [← h]; exact l1Taps_any S T w
theorem l1Taps_no (S T : Int) (w : World) (h : tapsB S T = false) :
    Calls Try.prog 45 #[.int .i64 S, .int .i64 T] w fun e w' => e = .returned (.bool false) ∧ w = w' := by
  rw [← h]; exact l1Taps_any S T w
theorem regB_no {S T X : Int} (h : tapsB S T = false) : false = regB S T X := by unfold regB; rw [h]; rfl
theorem regB_in {s : Nat} {T X : Int} (h : tapsB s T = true) : (decide (0 ≤ X) && decide (X < tw s)) = regB s T X := by unfold regB; rw [h]; simp
set_option maxRecDepth 100000 in
theorem sRegisterValid_any (S T X : Int) (w : World) :
    Calls Try.prog 77 #[.agg #[.int .i64 S, .int .i64 T, .int .i64 X]] w fun e w' => e = .returned (.bool (regB S T X)) ∧ Below w.heap.size w w' := by
  cases ht : tapsB S T with
  | true =>
    obtain ⟨h1, h2, h3, h4⟩ := (tapsB_iff S T).1 ht
    obtain ⟨s, rfl⟩ : ∃ s : Nat, S = s := ⟨S.toNat, by omega⟩
    have hb := tw_le s (by omega)
    have hp := tw_pos s
    go_enter Try.func77, Try.ntmps77
    go_wp2_with fail
    go_quiet ((first
      | (go_at_call 45; exact quiet_same (l1Taps_yes _ _ _ ht))
      | (go_at_call 64; exact quiet_same (l1In_any _ _ _ _))
      | (go_at_call 58; exact quiet_same (l1Two_any s _ (by omega)))))
    go_wp2
    go_ret
    exact ⟨ret_bool (by rw [← regB_in ht, Bool.eq_iff_iff]; simp; omega), below_drewN ((Below.refl _ _).alloc (Nat.le_refl _) _) _⟩
  | false =>
    go_enter Try.func77, Try.ntmps77
    go_wp2_with fail
    go_quiet ((first
      | (go_at_call 45; exact quiet_same (l1Taps_no _ _ _ ht))))
    go_wp2
    go_ret
    exact ⟨ret_bool (regB_no ht), below_drewN ((Below.refl _ _).alloc (Nat.le_refl _) _) _⟩
set_option maxRecDepth 100000 in
theorem iRegisterValid_any (S T X : Int) (w : World) :
    Calls Try.prog 53 #[.agg #[.int .i64 S, .int .i64 T, .int .i64 X]] w fun e w' => e = .returned (.bool (regB S T X)) ∧ Below w.heap.size w w' := by
  cases ht : tapsB S T with
  | true =>
    obtain ⟨h1, h2, h3, h4⟩ := (tapsB_iff S T).1 ht
    obtain ⟨s, rfl⟩ : ∃ s : Nat, S = s := ⟨S.toNat, by omega⟩
    have hb := tw_le s (by omega)
    have hp := tw_pos s
    have hw := wrap_tw s (by omega)
    by_cases h0 : 0 ≤ X
    · go_enter Try.func53, Try.ntmps53
      go_wp2_with fail
      go_quiet ((first
        | (go_at_call 36; exact quiet_same (tapsValid_yes _ _ _ ht))))
      go_wp2
      go_ret
      exact ⟨ret_bool (by rw [← regB_in ht, Bool.eq_iff_iff]; simp; omega), below_drewN ((Below.refl _ _).alloc (Nat.le_refl _) _) _⟩
    · have hd : decide (0 ≤ X) = false := by simpa using h0
      go_enter Try.func53, Try.ntmps53
      go_wp2_with fail
      go_quiet ((first
        | (go_at_call 36; exact quiet_same (tapsValid_yes _ _ _ ht))))
      go_wp2
      go_ret
      exact ⟨ret_bool (by rw [← regB_in ht, Bool.eq_iff_iff]; simp; omega), below_drewN ((Below.refl _ _).alloc (Nat.le_refl _) _) _⟩
  | false =>
    go_enter Try.func53, Try.ntmps53
    go_wp2_with fail
    go_quiet ((first
      | (go_at_call 36; exact quiet_same (tapsValid_no _ _ _ ht))))
    go_wp2
    go_ret
    exact ⟨ret_bool (regB_no ht), below_drewN ((Below.refl _ _).alloc (Nat.le_refl _) _) _⟩
/-- One thing behind another: what lay there as the first began is as it was. -/
theorem below_then {B : Nat} {a w w' : World} (h : Below B a w) (hs : B ≤ a.heap.size) (k : Below w.heap.size w w') : Below B a w' := h.trans (k.mono (Nat.le_trans hs h.size))
/-- A block holds a register's three numbers. -/
def RegAt (w : World) (b : Nat) (S T X : Int) : Prop :=
  w.cell? ⟨b, 0, none⟩ = some (.int .i64 S) ∧ w.cell? ⟨b, 1, none⟩ = some (.int .i64 T) ∧ w.cell? ⟨b, 2, none⟩ = some (.int .i64 X) ∧ b < w.heap.size
theorem RegAt.new (w : World) (t : TypeId) (S T X : Int) : RegAt (w.alloc (.cells #[.int .i64 S, .int .i64 T, .int .i64 X] t)) w.heap.size S T X := by
  refine ⟨?_, ?_, ?_, by simp⟩ <;> simp
theorem RegAt.below {w w' : World} {b B : Nat} {S T X : Int} (h : RegAt w b S T X) (hb : Below B w w') (hB : b < B) : RegAt w' b S T X :=
  ⟨(hb.cell (p := ⟨b, 0, none⟩) hB).trans h.1, (hb.cell (p := ⟨b, 1, none⟩) hB).trans h.2.1, (hb.cell (p := ⟨b, 2, none⟩) hB).trans h.2.2.1, Nat.lt_of_lt_of_le h.2.2.2 hb.size⟩
theorem RegAt.kept {w w' : World} {b : Nat} {row : Option Nat} {S T X : Int} (h : RegAt w b S T X) (hg : w.grownBy w' row) (hne : some b ≠ row) : RegAt w' b S T X :=
  ⟨hg.cell h.1 hne, hg.cell h.2.1 hne, hg.cell h.2.2.1 hne, Nat.lt_of_lt_of_le h.2.2.2 hg.size⟩
theorem frozen_kept' {w w' : World} {b o : Nat} {row : Option Nat} (h : w.frozen? ⟨b, o, none⟩ = false) (hb : b < w.heap.size) (hg : w.grownBy w' row) (hne : some b ≠ row) : w'.frozen? ⟨b, o, none⟩ = false :=
  (World.frozen?_of_block (a := ⟨b, o, none⟩) (hg.block b hb hne)).trans h
theorem RegAt.set {W : World} {b : Nat} {S T X : Int} (h : RegAt W b S T X) (hf : W.frozen? ⟨b, 2, none⟩ = false) (Y : Int) :
    RegAt (W.setCell ⟨b, 2, none⟩ (.int .i64 Y)).drew b S T Y ∧ (W.setCell ⟨b, 2, none⟩ (.int .i64 Y)).drew.frozen? ⟨b, 2, none⟩ = false ∧ W.grownBy (W.setCell ⟨b, 2, none⟩ (.int .i64 Y)).drew (some b) := by
  obtain ⟨c0, c1, c2, cl⟩ := h
  refine ⟨⟨?_, ?_, ?_, ?_⟩, ?_, ?_⟩
  · go_simp
  · go_simp
  · go_simp
  · simp; omega
  · go_simp
  · exact ⟨rfl, rfl, rfl, by simp, fun k hk hne => Below.heap_setCell _ _ _ _ (fun e => hne (by rw [e]))⟩
/-- Two blocks that a function on registers by value lays first: its parameter's and its result's. -/
theorem two_new (w : World) (t : TypeId) (S T X : Int) : ∃ W, Below w.heap.size w W ∧ RegAt W w.heap.size S T X ∧ RegAt W (w.heap.size + 1) 0 0 0 ∧ (∀ o, W.frozen? ⟨w.heap.size, o, none⟩ = false) ∧ (∀ o, W.frozen? ⟨w.heap.size + 1, o, none⟩ = false) ∧
    W.heap.size = w.heap.size + 2 ∧ (w.alloc (.cells #[.int .i64 S, .int .i64 T, .int .i64 X] t)).alloc (.cells #[.int .i64 0, .int .i64 0, .int .i64 0] t) = W := by
  refine ⟨_, ((Below.refl _ w).alloc (Nat.le_refl _) _).alloc (by simp) _, ?_, ?_, ?_, ?_, ?_, rfl⟩
  · exact (RegAt.new w t S T X).below (B := w.heap.size + 1) ((Below.refl _ _).alloc (by simp) _) (by omega)
  · have := RegAt.new (w.alloc (.cells #[.int .i64 S, .int .i64 T, .int .i64 X] t)) t 0 0 0
    simpa using this
  · intro o; simp
  · intro o
    have : (w.alloc (.cells #[.int .i64 S, .int .i64 T, .int .i64 X] t)).heap.size = w.heap.size + 1 := by simp
    rw [← this]; simp
  · simp
set_option maxRecDepth 100000 in
theorem step_any (b : Nat) (s t x : Nat) (w : World) (hr : RegN s t x) (ha : RegAt w b s t x) (hf : w.frozen? ⟨b, 2, none⟩ = false) :
    Calls Try.prog 73 #[.pointer (some ⟨b, 0, none⟩)] w fun e w' => (∃ v, e = .returned v) ∧ RegAt w' b s t (stepN s t x : Nat) ∧ w'.frozen? ⟨b, 2, none⟩ = false ∧ w.grownBy w' (some b) := by
  obtain ⟨k, rfl⟩ : ∃ k, s = k + 1 := ⟨s - 1, by have := hr.lo; omega⟩
  obtain ⟨c0, c1, c2, cl⟩ := ha
  obtain ⟨h1, h2, h3, h4, h5⟩ := hr
  have h6 := tw_le (k + 1) h2
  have h7 : x &&& t ≤ x := Nat.and_le_left
  have h8 := par_lt (x &&& t)
  have e1 := and64 x t (by omega) (by omega)
  go_enter Try.func73, Try.ntmps73
  go_wp2_with fail
  go_quiet ((go_at_call 76; exact quiet_same (parity_any _ _ (by omega))))
  go_wp2_with fail
  clear e1
  obtain ⟨W, hg, hR, hF⟩ : ∃ W, w.grownBy W (some b) ∧ RegAt W b (k + 1 : Nat) t x ∧ W.frozen? ⟨b, 2, none⟩ = false ∧ w.drewN nq = W := ⟨_, grownBy_drewN' w nq _, ⟨c0, c1, c2, cl⟩, hf, rfl⟩
  rw [hF.2]
  obtain ⟨d0, d1, d2, dl⟩ := hR
  have df := hF.1
  clear hF c0 c1 c2 cl hf
  have hk : IntKind.i64.wrap (k : Int) = k := IntWalk.i64_in _ (by omega)
  have hk0 : (0 : Int) ≤ (k : Int) := by omega
  have hv := step_value k t x h2 h5
  go_still_tail 16, (by kernel_rfl)
  clear hk hk0 hv
  go_wp2
  go_end0
  obtain ⟨r1, r2, r3⟩ := RegAt.set ⟨d0, d1, d2, dl⟩ df ((stepN (k + 1) t x : Nat) : Int)
  exact ⟨⟨_, rfl⟩, r1, r2, hg.trans r3⟩
set_option maxRecDepth 100000 in
theorem firstTapped_any (t : Nat) (w : World) (h : t < 256) :
    Calls Try.prog 43 #[.int .i64 t] w fun e w' => e = .returned (.bool (decide (t % 2 = 1))) ∧ w = w' := by
  have e := and64_one t (by omega)
  by_cases h1 : t % 2 = 1
  · rw [h1] at e
    go_enter Try.func43, Try.ntmps43
    go_wp2
    go_ret
    exact ⟨ret_bool (by simp [h1]), rfl⟩
  · rw [show t % 2 = 0 by omega] at e
    go_enter Try.func43, Try.ntmps43
    go_wp2
    go_ret
    exact ⟨ret_bool (by simp [h1]), rfl⟩
theorem firstTapped_yes (t : Nat) (w : World) (h : t < 256) (h1 : t % 2 = 1) :
    Calls Try.prog 43 #[.int .i64 t] w fun e w' => e = .returned (.bool true) ∧ w = w' := by
  have := firstTapped_any t w h
  rwa [decide_eq_true h1] at this
theorem firstTapped_no (t : Nat) (w : World) (h : t < 256) (h1 : ¬ t % 2 = 1) :
    Calls Try.prog 43 #[.int .i64 t] w fun e w' => e = .returned (.bool false) ∧ w = w' := by
  have := firstTapped_any t w h
  rwa [decide_eq_false h1] at this
set_option maxRecDepth 100000 in
theorem l1Step_any (s t x : Nat) (w : World) (hr : RegN s t x) :
    Calls Try.prog 75 #[.agg #[.int .i64 s, .int .i64 t, .int .i64 x]] w fun e w' => e = .returned (.agg #[.int .i64 s, .int .i64 t, .int .i64 (stepN s t x : Nat)]) ∧ Below w.heap.size w w' := by
  obtain ⟨k, rfl⟩ : ∃ k, s = k + 1 := ⟨s - 1, by have := hr.lo; omega⟩
  obtain ⟨h1, h2, h3, h4, h5⟩ := hr
  have h6 := tw_le (k + 1) h2
  have h7 : x &&& t ≤ x := Nat.and_le_left
  have h8 := par_lt (x &&& t)
  have e1 := and64 x t (by omega) (by omega)
  go_enter Try.func75, Try.ntmps75
  go_wp2_with fail
  have hk : IntKind.i64.wrap (k : Int) = k := IntWalk.i64_in _ (by omega)
  have hk0 : (0 : Int) ≤ (k : Int) := by omega
  obtain ⟨W, hB, ⟨c0, c1, c2, cl⟩, ⟨d0, d1, d2, dl⟩, hf, hf', hz, hW⟩ := two_new w 57 ((k : Int) + 1) t x
  rw [hW]
  clear hW
  have f2 := hf 2
  have g0 := hf' 0
  have g1 := hf' 1
  have g2 := hf' 2
  clear hf hf'
  have hv := sstep_value k t x h2 h5
  go_still_tail 16, (by kernel_rfl)
  still_call (same_of (l1Parity_any _ _ (by omega)))
  repeat still_step
  still_call (same_of (l1Two_any k _ (by omega)))
  repeat still_step
  try refine wpStill_nil ?_
  clear hk hk0 hv e1
  go_wp2
  refine bodyPost_ret (v := .agg #[.int .i64 ((k : Int) + 1), .int .i64 t, .int .i64 (stepN (k + 1) t x : Nat)]) (by simp [results, Try.results75, go_sem, d0, d1, d2]) rfl ⟨by simp, ?_⟩
  go_grown
end Go.Proofs.Ytmlmpekhcnjehaa
namespace Go.Proofs.Ytmlmpekhcnjehaa
open Go.RowKit
theorem RegAt.set3 {W : World} {b : Nat} {S T X : Int} (h : RegAt W b S T X) (S' T' X' : Int) :
    RegAt (((W.setCell ⟨b, 0, none⟩ (.int .i64 S')).setCell ⟨b, 1, none⟩ (.int .i64 T')).setCell ⟨b, 2, none⟩ (.int .i64 X')) b S' T' X' ∧
    (∀ a, (((W.setCell ⟨b, 0, none⟩ (.int .i64 S')).setCell ⟨b, 1, none⟩ (.int .i64 T')).setCell ⟨b, 2, none⟩ (.int .i64 X')).frozen? a = W.frozen? a) ∧
    W.grownBy (((W.setCell ⟨b, 0, none⟩ (.int .i64 S')).setCell ⟨b, 1, none⟩ (.int .i64 T')).setCell ⟨b, 2, none⟩ (.int .i64 X')) (some b) := by
  obtain ⟨c0, c1, c2, cl⟩ := h
  refine ⟨⟨?_, ?_, ?_, ?_⟩, ?_, ?_⟩
  · go_simp
  · go_simp
  · go_simp
  · simp; omega
  · intro a; simp [World.frozen?_setCell]
  · refine ⟨rfl, rfl, rfl, by simp, fun k hk hne => ?_⟩
    have hne' : k ≠ b := fun e => hne (by rw [e])
    rw [Below.heap_setCell _ _ _ _ hne', Below.heap_setCell _ _ _ _ hne', Below.heap_setCell _ _ _ _ hne']
end Go.Proofs.Ytmlmpekhcnjehaa
