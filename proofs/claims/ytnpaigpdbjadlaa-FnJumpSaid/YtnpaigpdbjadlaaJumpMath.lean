/- Jumps add up: plain mathematics. -/
import Derived.Test.YtnpaigpdbjadlaaRegMath
namespace Go.Proofs.Ytnpaigpdbjadlaa
theorem step_backs {s t x : Nat} (h : RegN s t x) (ho : t % 2 = 1) (n : Nat) : stepN s t (backsN s t (n + 1) x) = backsN s t n x := step_back s t _ (h.backs n) ho
theorem steps_back {s t x : Nat} (h : RegN s t x) (ho : t % 2 = 1) : ∀ m n, m ≤ n → stepsN s t m (backsN s t n x) = backsN s t (n - m) x
  | 0, n, _ => by simp [stepsN]
  | m + 1, n, hm => by
    simp only [stepsN]
    rw [steps_back h ho m n (by omega), show n - m = (n - (m + 1)) + 1 by omega]
    exact step_backs h ho _
theorem steps_over {s t x : Nat} (h : RegN s t x) (ho : t % 2 = 1) (m n : Nat) (hm : n ≤ m) : stepsN s t m (backsN s t n x) = stepsN s t (m - n) x := by
  rw [show m = (m - n) + n by omega, steps_add, steps_back h ho n n (Nat.le_refl _)]
  simp [backsN]
/-- Two jumps in sequence are one jump by their sum, the second one forth. -/
theorem jump_add {s t x : Nat} (h : RegN s t x) (k : Int) (m : Nat) (hk : 0 ≤ k ∨ t % 2 = 1) : stepsN s t m (jumpN s t k x) = jumpN s t (k + m) x := by
  unfold jumpN
  by_cases h0 : 0 ≤ k
  · rw [if_pos h0, if_pos (by omega), ← steps_add]
    congr 1; omega
  · have ho : t % 2 = 1 := by omega
    rw [if_neg h0]
    by_cases h1 : 0 ≤ k + m
    · rw [if_pos h1, steps_over h ho _ _ (by omega)]
      congr 1; omega
    · rw [if_neg h1, steps_back h ho _ _ (by omega)]
      congr 1; omega
theorem jump_neg {s t x : Nat} (h : RegN s t x) (k : Int) (ho : t % 2 = 1) : jumpN s t (-k) (jumpN s t k x) = x := by
  unfold jumpN
  by_cases h0 : 0 ≤ k
  · rw [if_pos h0]
    by_cases h1 : 0 ≤ -k
    · have : k = 0 := by omega
      subst this; rfl
    · rw [if_neg h1, show (- -k).toNat = k.toNat by omega]
      exact backs_steps h ho _
  · rw [if_neg h0, if_pos (by omega)]
    exact steps_backs h ho _
end Go.Proofs.Ytnpaigpdbjadlaa
