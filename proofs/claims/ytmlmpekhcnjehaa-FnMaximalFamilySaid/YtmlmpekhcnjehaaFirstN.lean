/- The first place that is chosen. -/
import Derived.Test.YtmlmpekhcnjehaaRegBase
namespace Go.Proofs.Ytmlmpekhcnjehaa
/-- The first place that is chosen, n if none is. -/
def firstN (p : Nat → Bool) : Nat → Nat
  | 0 => 0
  | k + 1 => if firstN p k < k then firstN p k else if p k then k else k + 1
theorem firstN_le (p : Nat → Bool) : ∀ k, firstN p k ≤ k
  | 0 => Nat.le_refl _
  | k + 1 => by have := firstN_le p k; simp only [firstN]; split; omega; split <;> omega
theorem firstN_none {p : Nat → Bool} : ∀ {k : Nat}, firstN p k = k → ∀ i, i < k → p i = false
  | 0, _, i, hi => by omega
  | k + 1, h, i, hi => by
    have hb := firstN_le p k
    simp only [firstN] at h
    split at h
    · omega
    · split at h
      · omega
      · next h1 h2 =>
        by_cases e : i = k
        · subst e; simpa using h2
        · exact firstN_none (k := k) (by omega) i (by omega)
theorem firstN_step {p : Nat → Bool} {k : Nat} (h : firstN p k = k) (hp : p k = false) : firstN p (k + 1) = k + 1 := by simp [firstN, h, hp]
theorem firstN_hit {p : Nat → Bool} {k : Nat} (h : firstN p k = k) (hp : p k = true) : ∀ n, k < n → firstN p n = k
  | 0, hn => by omega
  | n + 1, hn => by
    by_cases e : n = k
    · subst e; simp [firstN, h, hp]
    · have ih := firstN_hit h hp n (by omega)
      simp only [firstN, ih]
      rw [if_pos (by omega)]
end Go.Proofs.Ytmlmpekhcnjehaa
