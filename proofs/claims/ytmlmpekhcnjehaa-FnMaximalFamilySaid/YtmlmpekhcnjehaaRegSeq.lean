/- Plain mathematics: the bits of a register as a sequence; linear recurrences. No program in sight. -/
import Derived.Test.YtmlmpekhcnjehaaRegBase
namespace Go.Proofs.Ytmlmpekhcnjehaa
/-- The j-th binary digit. -/
def bitN (x j : Nat) : Nat := x / tw j % 2
theorem bitN_lt (x j : Nat) : bitN x j < 2 := Nat.mod_lt _ (by omega)
theorem bitN_zero (x : Nat) : bitN x 0 = x % 2 := by simp [bitN, tw]
theorem bitN_half (x j : Nat) : bitN (x / 2) j = bitN x (j + 1) := by
  unfold bitN; rw [Nat.div_div_eq_div_mul, tw_succ]
theorem bitN_big (x j : Nat) (h : x < tw j) : bitN x j = 0 := by unfold bitN; rw [Nat.div_eq_of_lt h]
theorem tw_add (a b : Nat) : tw (a + b) = tw a * tw b := Nat.pow_add 2 a b
theorem tw_mono {a b : Nat} (h : a ≤ b) : tw a ≤ tw b := Nat.pow_le_pow_right (by omega) h
theorem bit_step (s t x j : Nat) (hj : j + 1 < s) : bitN (stepN s t x) j = bitN x (j + 1) := by
  obtain ⟨d, hd⟩ : ∃ d, s - 1 = j + (1 + d) := ⟨s - 1 - (j + 1), by omega⟩
  unfold stepN
  rw [hd, ← bitN_half]
  unfold bitN
  have e : par (x &&& t) * tw (j + (1 + d)) = tw j * (2 * (par (x &&& t) * tw d)) := by
    rw [tw_add, tw_add, show tw 1 = 2 from rfl, Nat.mul_left_comm, Nat.mul_left_comm (par (x &&& t))]
  rw [e, Nat.add_mul_div_left _ _ (tw_pos j), Nat.add_mul_mod_self_left]
theorem bit_top (s t x : Nat) (hs : 1 ≤ s) (h : x < tw s) : bitN (stepN s t x) (s - 1) = par (x &&& t) := by
  have h1 := half_lt s x hs h
  have h2 := par_lt (x &&& t)
  unfold stepN bitN
  rw [Nat.add_mul_div_right _ _ (tw_pos _), Nat.div_eq_of_lt h1]
  omega
theorem state_bit {s t x : Nat} : ∀ j k, j < s → bitN (stepsN s t k x) j = stepsN s t (k + j) x % 2
  | 0, k, _ => bitN_zero _
  | j + 1, k, h => by
    rw [← bit_step s t _ j h]
    have := state_bit (s := s) (t := t) (x := x) j (k + 1) (by omega)
    rw [show k + (j + 1) = k + 1 + j by omega, ← this]; rfl
theorem eq_of_bits : ∀ s x y, x < tw s → y < tw s → (∀ j, j < s → bitN x j = bitN y j) → x = y
  | 0, x, y, hx, hy, _ => by have : tw 0 = 1 := rfl; omega
  | s + 1, x, y, hx, hy, h => by
    have h1 := tw_succ s
    have h2 := eq_of_bits s (x / 2) (y / 2) (by omega) (by omega) (fun j hj => by rw [bitN_half, bitN_half]; exact h (j + 1) (by omega))
    have h3 := h 0 (by omega)
    rw [bitN_zero, bitN_zero] at h3
    omega
/-- The sum of those numbers that taps name. -/
def tsum (t : Nat) (f : Nat → Nat) : Nat → Nat
  | 0 => 0
  | m + 1 => tsum t f m + if bitN t m = 1 then f m else 0
theorem tsum_congr {t : Nat} {f g : Nat → Nat} : ∀ m, (∀ i, i < m → f i = g i) → tsum t f m = tsum t g m
  | 0, _ => rfl
  | m + 1, h => by
    simp only [tsum]
    rw [tsum_congr m (fun i hi => h i (by omega)), h m (by omega)]
def bsum (n : Nat) : Nat → Nat
  | 0 => 0
  | m + 1 => bsum n m + bitN n m
theorem bsum_front (n : Nat) : ∀ m, bsum n (m + 1) = n % 2 + bsum (n / 2) m
  | 0 => by simp [bsum, bitN_zero]
  | m + 1 => by
    rw [bsum, bsum_front n m, bsum, bitN_half]; omega
theorem parF_bsum : ∀ f n, parF f n = bsum n f % 2
  | 0, _ => rfl
  | f + 1, n => by rw [parF, parF_bsum f, bsum_front]; omega
theorem bsum_more (n s : Nat) (h : n < tw s) : ∀ d, bsum n (s + d) = bsum n s
  | 0 => rfl
  | d + 1 => by
    rw [← Nat.add_assoc, bsum, bsum_more n s h d, bitN_big n (s + d) (Nat.lt_of_lt_of_le h (tw_mono (by omega)))]; rfl
theorem bit_and (x t : Nat) : ∀ j, bitN (x &&& t) j = if bitN t j = 1 then bitN x j else 0 := by
  intro j
  induction j generalizing x t with
  | zero =>
    rw [bitN_zero, bitN_zero, bitN_zero]
    by_cases h : t % 2 = 1
    · rw [if_pos h, and_odd _ _ h]
    · rw [if_neg h]
      have h1 := Nat.and_mod_two_pow (a := x) (b := t) (n := 1)
      simp only [Nat.pow_one] at h1
      rw [h1, show t % 2 = 0 by omega, Nat.and_zero]
  | succ j ih => rw [← bitN_half, and_half, ih, bitN_half, bitN_half]
theorem bit_xor (x y : Nat) : ∀ j, bitN (x ^^^ y) j = (bitN x j + bitN y j) % 2 := by
  intro j
  induction j generalizing x y with
  | zero => rw [bitN_zero, bitN_zero, bitN_zero, xor_low]
  | succ j ih => rw [← bitN_half, xor_half, ih, bitN_half, bitN_half]
theorem bsum_and (x t : Nat) : ∀ m, bsum (x &&& t) m = tsum t (bitN x) m
  | 0 => rfl
  | m + 1 => by rw [bsum, tsum, bsum_and x t m, bit_and]
theorem par_taps (s t x : Nat) (h : x < tw s) (hs : s ≤ 63) : par (x &&& t) = tsum t (bitN x) s % 2 := by
  have h1 : x &&& t ≤ x := Nat.and_le_left
  obtain ⟨d, hd⟩ : ∃ d, 63 = s + d := ⟨63 - s, by omega⟩
  unfold par
  rw [parF_bsum, hd, bsum_more _ s (by omega), bsum_and]
/-- Each later bit is the sum of those that the taps name. -/
theorem next_bit {s t x : Nat} (h : RegN s t x) (k : Nat) : stepsN s t (k + s) x % 2 = tsum t (fun i => stepsN s t (k + i) x % 2) s % 2 := by
  have h1 := h.lo
  have h2 := h.hi
  have e := state_bit (s := s) (t := t) (x := x) (s - 1) (k + 1) (by omega)
  rw [show k + 1 + (s - 1) = k + s by omega] at e
  rw [← e, show stepsN s t (k + 1) x = stepN s t (stepsN s t k x) from rfl, bit_top s t _ (by omega) (h.steps k).lt, par_taps s t _ (h.steps k).lt (by omega)]
  rw [tsum_congr s (fun i hi => state_bit i k hi)]
theorem first_bit {s t x : Nat} (j : Nat) (hj : j < s) : stepsN s t j x % 2 = bitN x j := by
  have := state_bit (s := s) (t := t) (x := x) j 0 hj
  rw [Nat.zero_add] at this
  rw [← this]; rfl
/-- Linear recurrences as operators on sequences of numbers, of which only the lowest digit counts. -/
def recL (s t : Nat) (f : Nat → Nat) (k : Nat) : Nat := f (k + s) + tsum t (fun i => f (k + i)) s
theorem tsum_add (t : Nat) (f g : Nat → Nat) : ∀ m, tsum t (fun i => f i + g i) m = tsum t f m + tsum t g m
  | 0 => rfl
  | m + 1 => by
    simp only [tsum]
    rw [tsum_add t f g m]
    by_cases h : bitN t m = 1
    · simp only [if_pos h]; omega
    · simp only [if_neg h]; omega
theorem tsum_zero (t : Nat) : ∀ m, tsum t (fun _ => 0) m = 0
  | 0 => rfl
  | m + 1 => by rw [tsum, tsum_zero t m]; simp
theorem tsum_swap (t t' : Nat) (F : Nat → Nat → Nat) (m' : Nat) : ∀ m, tsum t (fun i => tsum t' (fun j => F i j) m') m = tsum t' (fun j => tsum t (fun i => F i j) m) m'
  | 0 => (tsum_zero t' m').symm
  | m + 1 => by
    simp only [tsum]
    rw [tsum_swap t t' F m' m, tsum_add t' (fun j => tsum t (fun i => F i j) m) (fun j => if bitN t m = 1 then F m j else 0)]
    by_cases h : bitN t m = 1
    · simp only [if_pos h]
    · simp only [if_neg h]; rw [tsum_zero]
theorem recL_add (s t : Nat) (f g : Nat → Nat) (k : Nat) : recL s t (fun i => f i + g i) k = recL s t f k + recL s t g k := by
  have e := tsum_add t (fun i => f (k + i)) (fun i => g (k + i)) s
  show (f (k + s) + g (k + s)) + tsum t (fun i => f (k + i) + g (k + i)) s = (f (k + s) + tsum t (fun i => f (k + i)) s) + (g (k + s) + tsum t (fun i => g (k + i)) s)
  rw [e]; omega
theorem recL_comm (s t s' t' : Nat) (f : Nat → Nat) (k : Nat) : recL s t (recL s' t' f) k = recL s' t' (recL s t f) k := by
  unfold recL
  rw [tsum_add t (fun i => f (k + i + s')) (fun i => tsum t' (fun j => f (k + i + j)) s'), tsum_add t' (fun i => f (k + i + s)) (fun i => tsum t (fun j => f (k + i + j)) s), tsum_swap t t' (fun i j => f (k + i + j)) s' s]
  have e1 : k + s + s' = k + s' + s := by omega
  have e2 : tsum t' (fun i => f (k + s + i)) s' = tsum t' (fun i => f (k + i + s)) s' := tsum_congr _ fun i _ => by rw [show k + s + i = k + i + s by omega]
  have e3 : tsum t (fun i => f (k + i + s')) s = tsum t (fun i => f (k + s' + i)) s := tsum_congr _ fun i _ => by rw [show k + i + s' = k + s' + i by omega]
  have e4 : tsum t' (fun j => tsum t (fun i => f (k + i + j)) s) s' = tsum t' (fun i => tsum t (fun j => f (k + i + j)) s) s' := tsum_congr _ fun i _ => tsum_congr _ fun j _ => by rw [show k + j + i = k + i + j by omega]
  rw [e1, e2, e3, e4]; omega
theorem tsum_even (t : Nat) {f : Nat → Nat} : ∀ m, (∀ i, i < m → f i % 2 = 0) → tsum t f m % 2 = 0
  | 0, _ => rfl
  | m + 1, h => by
    have h1 := tsum_even t m (fun i hi => h i (by omega))
    have h2 := h m (by omega)
    simp only [tsum]
    by_cases e : bitN t m = 1
    · simp only [if_pos e]; omega
    · simp only [if_neg e]; omega
theorem recL_even {s t : Nat} {f : Nat → Nat} {k : Nat} (h : ∀ i, i ≤ s → f (k + i) % 2 = 0) : recL s t f k % 2 = 0 := by
  have h1 := tsum_even t (f := fun i => f (k + i)) s (fun i hi => h i (by omega))
  have h2 := h s (Nat.le_refl _)
  unfold recL
  omega
/-- A sequence that keeps to a recurrence and begins with zeros is zero. -/
theorem rec_zero {s t : Nat} {f : Nat → Nat} (hL : ∀ k, recL s t f k % 2 = 0) (h0 : ∀ i, i < s → f i % 2 = 0) : ∀ k, f k % 2 = 0 := by
  intro k
  induction k using Nat.strongRecOn with
  | _ k ih =>
    by_cases h : k < s
    · exact h0 k h
    · have h1 := hL (k - s)
      have h2 := tsum_even t (f := fun i => f (k - s + i)) s (fun i hi => ih (k - s + i) (by omega))
      unfold recL at h1
      rw [show k - s + s = k by omega] at h1
      omega
/-- Two sequences of recurrences that agree in as many places as both have digits agree in all. -/
theorem rec_same {s t s' t' : Nat} {a b : Nat → Nat} (ha : ∀ k, recL s t a k % 2 = 0) (hb : ∀ k, recL s' t' b k % 2 = 0) (h0 : ∀ k, k < s + s' → a k % 2 = b k % 2) : ∀ k, a k % 2 = b k % 2 := by
  have hc0 : ∀ k, k < s + s' → (a k + b k) % 2 = 0 := fun k hk => by have := h0 k hk; omega
  have he : ∀ k, recL s' t' (fun i => a i + b i) k % 2 = 0 := by
    refine rec_zero (s := s) (t := t) (fun k => ?_) (fun i hi => recL_even (f := fun i => a i + b i) fun j hj => hc0 (i + j) (by omega))
    have e1 : recL s t (fun i => recL s' t' (fun i => a i + b i) i) k = recL s t (recL s' t' a) k + recL s t (recL s' t' b) k := by
      rw [← recL_add s t (recL s' t' a) (recL s' t' b) k]
      unfold recL
      congr 1
      · exact recL_add s' t' a b _
      · exact tsum_congr _ fun i _ => recL_add s' t' a b _
    rw [e1, recL_comm s t s' t' a k]
    have h1 := recL_even (s := s') (t := t') (f := recL s t a) (k := k) (fun i _ => ha _)
    have h2 := recL_even (s := s) (t := t) (f := recL s' t' b) (k := k) (fun i _ => hb _)
    omega
  have hz := rec_zero (s := s') (t := t') (f := fun i => a i + b i) he (fun i hi => hc0 i (by omega))
  intro k
  have : (a k + b k) % 2 = 0 := hz k
  omega
theorem reg_rec {s t x : Nat} (h : RegN s t x) (k : Nat) : recL s t (fun i => stepsN s t i x % 2) k % 2 = 0 := by
  have := next_bit h k
  show (stepsN s t (k + s) x % 2 + tsum t (fun i => stepsN s t (k + i) x % 2) s) % 2 = 0
  omega
/-- Registers that agree in as many bits as both have cells agree in all. -/
theorem reg_same {s t x s' t' x' : Nat} (h : RegN s t x) (h' : RegN s' t' x') (h0 : ∀ k, k < s + s' → stepsN s t k x % 2 = stepsN s' t' k x' % 2) : ∀ k, stepsN s t k x % 2 = stepsN s' t' k x' % 2 := by
  intro k
  have : stepsN s t k x % 2 % 2 = stepsN s' t' k x' % 2 % 2 := rec_same (a := fun i => stepsN s t i x % 2) (b := fun i => stepsN s' t' i x' % 2) (reg_rec h) (reg_rec h') (fun k hk => by show stepsN s t k x % 2 % 2 = stepsN s' t' k x' % 2 % 2; rw [h0 k hk]) k
  omega
/-- Steps of a sum are the sum of steps. -/
theorem step_xor {s t x y : Nat} (h : RegN s t x) (k : RegN s t y) : stepN s t (x ^^^ y) = stepN s t x ^^^ stepN s t y := by
  have hl := h.lo
  have hxy : x ^^^ y < tw s := Nat.xor_lt_two_pow h.lt k.lt
  refine eq_of_bits s _ _ (stepN_lt s t _ (by omega) hxy) (Nat.xor_lt_two_pow (h.step).lt (k.step).lt) fun j hj => ?_
  rw [bit_xor]
  by_cases e : j + 1 < s
  · rw [bit_step _ _ _ _ e, bit_step _ _ _ _ e, bit_step _ _ _ _ e, bit_xor]
  · obtain rfl : j = s - 1 := by omega
    rw [bit_top s t _ (by omega) hxy, bit_top s t _ (by omega) h.lt, bit_top s t _ (by omega) k.lt, Nat.and_xor_distrib_right, par_xor]
theorem RegN.xor {s t x y : Nat} (h : RegN s t x) (k : RegN s t y) : RegN s t (x ^^^ y) := ⟨h.lo, h.hi, h.tap, h.tapLt, Nat.xor_lt_two_pow h.lt k.lt⟩
theorem steps_xor {s t x y : Nat} (h : RegN s t x) (k : RegN s t y) : ∀ n, stepsN s t n (x ^^^ y) = stepsN s t n x ^^^ stepsN s t n y
  | 0 => rfl
  | n + 1 => by simp only [stepsN]; rw [steps_xor h k n, step_xor (h.steps n) (k.steps n)]
end Go.Proofs.Ytmlmpekhcnjehaa
