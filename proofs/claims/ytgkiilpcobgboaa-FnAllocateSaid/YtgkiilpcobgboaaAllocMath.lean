/- The answer of AllocateTree among the used paths: one free path less, and the next one behind it: the mathematics of FnAllocate. -/
import Derived.Test.YtgkiilpcobgboaaFreeMath
namespace Go.Proofs.Ytgkiilpcobgboaa
open Go.RowKit
set_option linter.unusedVariables false
theorem dig_eq {a b d : Nat} (ha : a < tw d) (hb : b < tw d) (h : ∀ t, t < d → digF a d t = digF b d t) : a = b := by
  induction d generalizing a b with
  | zero => have : tw 0 = 1 := rfl; omega
  | succ d ih =>
    rw [tw_succ] at ha hb
    have h1 : a / 2 = b / 2 := ih (by omega) (by omega) (fun t ht => by
      have e1 := dig_down (i := a / 2) (b := a % 2) (d := d) (by omega) ht
      have e2 := dig_down (i := b / 2) (b := b % 2) (d := d) (by omega) ht
      rw [show 2 * (a / 2) + a % 2 = a by omega] at e1
      rw [show 2 * (b / 2) + b % 2 = b by omega] at e2
      rw [← e1, ← e2]; exact h t (by omega))
    have h2 := h d (by omega)
    unfold digF at h2
    rw [show d + 1 - 1 - d = 0 by omega, show tw 0 = 1 by rfl, Nat.div_one, Nat.div_one] at h2
    omega
theorem conf_same {a b d : Nat} (hd : d ≤ 6) (ha : a < tw d) (hb : b < tw d) : confB (digS a d) (digS b d) = decide (a = b) := by
  unfold confB
  rw [digS_path a d hd, digS_path b d hd, Bool.true_and, Bool.true_and, Bool.eq_iff_iff, begB_iff, decide_eq_true_eq]
  constructor
  · intro h
    exact dig_eq ha hb (fun t ht => by
      have := h t (by rw [digS_size]; exact ht) (by rw [digS_size]; exact ht)
      rw [zb_dig ht, zb_dig ht] at this
      exact this)
  · intro e; subst e; exact fun _ _ _ => rfl
/-- The numbers of the free paths. -/
def frI (n : Nat) (F : Nat → ByteArray) (d k : Nat) : List Nat := (List.range k).filter fun i => freeB n F (digS i d)
theorem frL_map (n : Nat) (F : Nat → ByteArray) (d k : Nat) : frL n F d k = (frI n F d k).map fun i => digS i d := rfl
theorem frI_mem {n : Nat} {F : Nat → ByteArray} {d k i : Nat} : i ∈ frI n F d k ↔ i < k ∧ freeB n F (digS i d) = true := by unfold frI; rw [List.mem_filter, List.mem_range]
theorem frI_head {n : Nat} {F : Nat → ByteArray} {d k : Nat} (h : 0 < (frI n F d k).length) : ∃ i, i ∈ frI n F d k ∧ LS (frL n F d k) 0 = digS i d ∧ ∀ j, j ∈ frI n F d k → i ≤ j := by
  have hp : (frI n F d k).Pairwise (· < ·) := List.Pairwise.filter _ List.pairwise_lt_range
  rw [frL_map]
  unfold LS
  cases hl : frI n F d k with
  | nil => rw [hl] at h; simp at h
  | cons x l =>
    rw [hl] at hp
    refine ⟨x, by simp, by simp, fun j hj => ?_⟩
    rcases List.mem_cons.1 hj with e | e
    · omega
    · have := (List.pairwise_cons.1 hp).1 j e; omega
theorem one_less {G : Nat → Bool} {i0 : Nat} : ∀ k, i0 < k → G i0 = true → ((List.range k).filter fun i => G i && !decide (i = i0)).length + 1 = ((List.range k).filter G).length
  | 0, h, _ => absurd h (Nat.not_lt_zero _)
  | k + 1, h, hg => by
    rw [List.range_succ, List.filter_append, List.filter_append, List.length_append, List.length_append]
    by_cases e : i0 = k
    · subst e
      have e1 : (List.range i0).filter (fun i => G i && !decide (i = i0)) = (List.range i0).filter G := by
        apply List.filter_congr
        intro i hi
        have := List.mem_range.1 hi
        rw [decide_eq_false (by omega)]; simp
      rw [e1]
      simp [hg]
    · have := one_less (G := G) k (by omega) hg
      have e2 : (decide (k = i0)) = false := decide_eq_false (by omega)
      have e3 : ([k].filter fun i => G i && !decide (i = i0)) = [k].filter G := by
        apply List.filter_congr
        intro i hi
        have : i = k := by simpa using hi
        subst this
        rw [e2]; simp
      rw [e3]; omega
end Go.Proofs.Ytgkiilpcobgboaa
