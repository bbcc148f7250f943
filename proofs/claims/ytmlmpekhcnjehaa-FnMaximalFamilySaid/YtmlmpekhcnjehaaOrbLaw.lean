/- Plain mathematics: when states come back. -/
import Derived.Test.YtmlmpekhcnjehaaRegSeq
import Derived.Test.YtmlmpekhcnjehaaRegWalk
namespace Go.Proofs.Ytmlmpekhcnjehaa
theorem idx_none {s t x : Nat} : ∀ n v, idx s t x n v = 0 → ∀ m, m < n → stepsN s t m x ≠ v
  | 0, _, _, m, hm => absurd hm (Nat.not_lt_zero m)
  | n + 1, v, h, m, hm => by
    simp only [idx] at h
    by_cases e : stepsN s t n x = v
    · rw [if_pos e] at h; omega
    · rw [if_neg e] at h
      by_cases hmn : m = n
      · subst hmn; exact e
      · exact idx_none n v h m (by omega)
theorem idx_at {s t x : Nat} : ∀ n v, idx s t x n v ≠ 0 → stepsN s t (idx s t x n v - 1) x = v
  | 0, _, h => absurd rfl h
  | n + 1, v, h => by
    simp only [idx] at h ⊢
    by_cases e : stepsN s t n x = v
    · rw [if_pos e, Nat.add_sub_cancel]; exact e
    · rw [if_neg e] at h ⊢; exact idx_at n v h
/-- A lead of L states, then P states that come back. -/
structure Orb (s t x L P : Nat) : Prop where
  pos : 1 ≤ P
  back : stepsN s t (L + P) x = stepsN s t L x
  apart : ∀ a b, a < b → b < L + P → stepsN s t a x ≠ stepsN s t b x
theorem orb_of {s t x N : Nat} (h0 : idx s t x N (stepsN s t N x) ≠ 0) (hm : ∀ m, m < N → idx s t x m (stepsN s t m x) = 0) : ∃ L P, L + P = N ∧ idx s t x N (stepsN s t N x) = L + 1 ∧ Orb s t x L P := by
  have h1 := idx_le s t x N (stepsN s t N x)
  have h2 := idx_at N _ h0
  refine ⟨idx s t x N (stepsN s t N x) - 1, N + 1 - idx s t x N (stepsN s t N x), by omega, by omega, by omega, ?_, ?_⟩
  · rw [show idx s t x N (stepsN s t N x) - 1 + (N + 1 - idx s t x N (stepsN s t N x)) = N by omega]; exact h2.symm
  · intro a b hab hb
    exact idx_none b _ (hm b (by omega)) a hab
theorem tsum_but {t : Nat} {f g : Nat → Nat} {j : Nat} (hj : bitN t j = 1) : ∀ m, (∀ i, i < m → i ≠ j → bitN t i = 1 → f i = g i) → tsum t f m + (if j < m then g j else 0) = tsum t g m + (if j < m then f j else 0)
  | 0, _ => by simp [tsum]
  | m + 1, h => by
    have ih := tsum_but hj m (fun i hi => h i (by omega))
    simp only [tsum]
    by_cases e : m = j
    · subst e
      rw [if_neg (Nat.lt_irrefl _), if_neg (Nat.lt_irrefl _)] at ih
      rw [if_pos hj, if_pos hj, if_pos (by omega), if_pos (by omega)]; omega
    · by_cases b : bitN t m = 1
      · have := h m (by omega) e b
        rw [if_pos b, if_pos b, this]
        by_cases c : j < m
        · rw [if_pos c, if_pos c] at ih; rw [if_pos (by omega), if_pos (by omega)]; omega
        · rw [if_neg c, if_neg c] at ih; rw [if_neg (by omega), if_neg (by omega)]; omega
      · rw [if_neg b, if_neg b]
        by_cases c : j < m
        · rw [if_pos c, if_pos c] at ih; rw [if_pos (by omega), if_pos (by omega)]; omega
        · rw [if_neg c, if_neg c] at ih; rw [if_neg (by omega), if_neg (by omega)]; omega
theorem low_tap {s t : Nat} (h1 : 1 ≤ t) (h2 : t < tw s) : ∃ j, j < s ∧ bitN t j = 1 ∧ ∀ i, i < j → bitN t i = 0 := by
  have key : ∀ n, (∀ i, i < n → bitN t i = 0) ∨ ∃ j, j < n ∧ bitN t j = 1 ∧ ∀ i, i < j → bitN t i = 0 := by
    intro n
    induction n with
    | zero => exact .inl fun i hi => absurd hi (Nat.not_lt_zero i)
    | succ n ih =>
      rcases ih with ih | ⟨j, a, b⟩
      · by_cases e : bitN t n = 0
        · left
          intro i hi
          by_cases hin : i = n
          · subst hin; exact e
          · exact ih i (by omega)
        · exact .inr ⟨n, by omega, by have := bitN_lt t n; omega, ih⟩
      · exact .inr ⟨j, by omega, b⟩
  rcases key s with h | h
  · have := eq_of_bits s t 0 h2 (tw_pos s) (fun j hj => by rw [h j hj, bitN_big 0 j (tw_pos j)])
    omega
  · exact h
/-- From the lowest tap on, bits come back. -/
theorem bits_back {s t x L P j : Nat} (h : RegN s t x) (hb : stepsN s t (L + P) x = stepsN s t L x) (hj : j < s) (hj1 : bitN t j = 1) (hj0 : ∀ i, i < j → bitN t i = 0) :
    ∀ d m, j ≤ m → L ≤ m + d → stepsN s t (m + P) x % 2 = stepsN s t m x % 2
  | 0, m, _, hL => by
    obtain ⟨k, rfl⟩ : ∃ k, m = k + L := ⟨m - L, by omega⟩
    rw [Nat.add_assoc, steps_add s t x k (L + P), hb, ← steps_add]
  | d + 1, m, hm, hL => by
    by_cases hlt : L ≤ m + d
    · exact bits_back h hb hj hj1 hj0 d m hm hlt
    · have ih := fun m' (h1 : m < m') => bits_back h hb hj hj1 hj0 d m' (by omega) (by omega)
      obtain ⟨k, rfl⟩ : ∃ k, m = k + j := ⟨m - j, by omega⟩
      have n1 := next_bit h k
      have n2 := next_bit h (k + P)
      have e1 := ih (k + s) (by omega)
      rw [show k + s + P = k + P + s by omega] at e1
      have e2 := tsum_but (f := fun i => stepsN s t (k + P + i) x % 2) (g := fun i => stepsN s t (k + i) x % 2) hj1 s (fun i hi hne hb1 => by
        have hgt : j < i := by
          refine Classical.byContradiction fun hn => ?_
          rw [hj0 i (by omega)] at hb1; cases hb1
        have := ih (k + i) (by omega)
        rw [show k + i + P = k + P + i by omega] at this
        exact this)
      rw [if_pos hj, if_pos hj] at e2
      rw [show k + j + P = k + P + j by omega]
      have b1 := Nat.mod_lt (stepsN s t (k + P + j) x) (show 0 < 2 by omega)
      have b2 := Nat.mod_lt (stepsN s t (k + j) x) (show 0 < 2 by omega)
      omega
theorem state_of_bits {s t x a b : Nat} (h : RegN s t x) (e : ∀ i, i < s → stepsN s t (a + i) x % 2 = stepsN s t (b + i) x % 2) : stepsN s t a x = stepsN s t b x :=
  eq_of_bits s _ _ (h.steps a).lt (h.steps b).lt fun j hj => by rw [state_bit j a hj, state_bit j b hj, e j hj]
theorem Orb.lead {s t x L P : Nat} (o : Orb s t x L P) (h : RegN s t x) : L ≤ s := by
  obtain ⟨j, hj, hj1, hj0⟩ := low_tap h.tap h.tapLt
  refine Classical.byContradiction fun hn => ?_
  have hb := bits_back h o.back hj hj1 hj0
  have := state_of_bits (a := j) (b := j + P) h (fun i hi => by
    have := hb L (j + i) (by omega) (by omega)
    rw [show j + P + i = j + i + P by omega]
    exact this.symm)
  have hp := o.pos
  exact o.apart j (j + P) (by omega) (by omega) this
theorem Orb.odd {s t x L P : Nat} (o : Orb s t x L P) (h : RegN s t x) (ho : t % 2 = 1) : L = 0 := by
  cases L with
  | zero => rfl
  | succ L =>
    exfalso
    have e := o.back
    rw [show L + 1 + P = (L + P) + 1 by omega] at e
    have e2 : stepN s t (stepsN s t (L + P) x) = stepN s t (stepsN s t L x) := e
    have e3 : stepsN s t (L + P) x = stepsN s t L x := by
      rw [← back_step s t _ (h.steps (L + P)) ho, e2, back_step s t _ (h.steps L) ho]
    have hp := o.pos
    exact o.apart L (L + P) (by omega) (by omega) e3.symm
theorem Orb.comes {s t x L P : Nat} (o : Orb s t x L P) (i : Nat) (h1 : 1 ≤ i) (h2 : i ≤ P) : decide (stepsN s t i (stepsN s t L x) = stepsN s t L x) = decide (i = P) := by
  rw [← steps_add]
  by_cases e : i = P
  · subst e
    rw [decide_eq_true rfl, decide_eq_true]
    rw [Nat.add_comm]; exact o.back
  · rw [decide_eq_false e, decide_eq_false]
    intro k
    exact o.apart L (i + L) (by omega) (by omega) k.symm
theorem Orb.leaves {s t x L P : Nat} (o : Orb s t x L P) (i : Nat) (h : i < L) : stepsN s t P (stepsN s t i x) ≠ stepsN s t i x := by
  rw [← steps_add]
  have hp := o.pos
  intro k
  exact o.apart i (P + i) (by omega) (by omega) k.symm
end Go.Proofs.Ytmlmpekhcnjehaa
