/- Which state comes back first: plain mathematics. -/
import Derived.Test.YtlcnlhephhbhcaaRegMath
namespace Go.Proofs.Ytlcnlhephhbhcaa
/-- How many numbers below k have p. -/
def cnt (p : Nat → Bool) : Nat → Nat
  | 0 => 0
  | k + 1 => cnt p k + (if p k then 1 else 0)
theorem cnt_le (p : Nat → Bool) : ∀ k, cnt p k ≤ k
  | 0 => Nat.le_refl _
  | k + 1 => by have := cnt_le p k; simp only [cnt]; split <;> omega
theorem cnt_more (p q : Nat → Bool) (a : Nat) (hp : p a = false) (hq : ∀ v, q v = (p v || v == a)) : ∀ k, cnt q k = cnt p k + (if a < k then 1 else 0)
  | 0 => by simp [cnt]
  | k + 1 => by
    have ih := cnt_more p q a hp hq k
    simp only [cnt]
    rw [ih, hq k]
    by_cases h : k = a
    · subst h
      simp [hp]
    · have h1 : (k == a) = false := by simp [h]
      rw [h1, Bool.or_false]
      by_cases h2 : a < k
      · rw [if_pos h2, if_pos (show a < k + 1 by omega)]; omega
      · rw [if_neg h2, if_neg (show ¬ a < k + 1 by omega)]; try omega
/-- The number of the step, from 1, at which the value v is met last among the first n states; 0 if it isn't. -/
def idx (s t x : Nat) : Nat → Nat → Nat
  | 0, _ => 0
  | n + 1, v => if stepsN s t n x = v then n + 1 else idx s t x n v
theorem idx_le (s t x : Nat) : ∀ n v, idx s t x n v ≤ n
  | 0, _ => Nat.le_refl _
  | n + 1, v => by have := idx_le s t x n v; simp only [idx]; split <;> omega
theorem cnt_zero (p : Nat → Bool) (hp : ∀ v, p v = false) : ∀ k, cnt p k = 0
  | 0 => rfl
  | k + 1 => by simp [cnt, hp k, cnt_zero p hp k]
theorem cnt_idx {s t x : Nat} (hr : RegN s t x) (n : Nat) (h : ∀ m, m < n → idx s t x m (stepsN s t m x) = 0) : cnt (fun v => decide (idx s t x n v ≠ 0)) 256 = n := by
  induction n with
  | zero => exact cnt_zero _ (fun v => by simp [idx]) 256
  | succ n ih =>
    have h1 := ih (fun m hm => h m (by omega))
    have h2 := h n (by omega)
    have h3 := (hr.steps n).lt
    have h4 := tw_le s hr.hi
    rw [cnt_more (fun v => decide (idx s t x n v ≠ 0)) _ (stepsN s t n x) (by simp [h2]) (fun v => ?_) 256, h1, if_pos (by omega)]
    simp only [idx]
    by_cases hv : stepsN s t n x = v
    · simp [hv]
    · have : (v == stepsN s t n x) = false := by simp; exact fun e => hv e.symm
      simp [hv, this]
/-- There is a first state that comes back. -/
theorem orbit_ends {s t x : Nat} (hr : RegN s t x) : ∃ N, N ≤ 256 ∧ idx s t x N (stepsN s t N x) ≠ 0 ∧ ∀ m, m < N → idx s t x m (stepsN s t m x) = 0 := by
  have key : ∀ n, (∀ m, m < n → idx s t x m (stepsN s t m x) = 0) ∨ ∃ N, N < n ∧ idx s t x N (stepsN s t N x) ≠ 0 ∧ ∀ m, m < N → idx s t x m (stepsN s t m x) = 0 := by
    intro n
    induction n with
    | zero => exact .inl fun m hm => absurd hm (Nat.not_lt_zero m)
    | succ n ih =>
      rcases ih with ih | ⟨N, h1, h2⟩
      · by_cases h : idx s t x n (stepsN s t n x) = 0
        · left
          intro m hm
          by_cases hmn : m = n
          · subst hmn; exact h
          · exact ih m (by omega)
        · exact .inr ⟨n, by omega, h, ih⟩
      · exact .inr ⟨N, by omega, h2⟩
  rcases key 257 with h | ⟨N, h1, h2⟩
  · have h1 := cnt_idx hr 257 h
    have h2 := cnt_le (fun v => decide (idx s t x 257 v ≠ 0)) 256
    omega
  · exact ⟨N, by omega, h2⟩
end Go.Proofs.Ytlcnlhephhbhcaa
