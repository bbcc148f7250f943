/- Plain mathematics of the different correlations. -/
import Derived.Test.YtmmonhagceacjaaSeqVals
namespace Go.Proofs.Ytmmonhagceacjaa
/-- Is a number among the first ones? -/
def anyN (g : Nat → Int) (x : Int) : Nat → Bool
  | 0 => false
  | j + 1 => anyN g x j || decide (g j = x)
theorem anyN_of {g : Nat → Int} {x : Int} : ∀ {n j}, j < n → g j = x → anyN g x n = true
  | n + 1, j, h, e => by
    simp only [anyN]
    by_cases hj : j = n
    · subst hj; rw [decide_eq_true e, Bool.or_true]
    · rw [anyN_of (show j < n by omega) e, Bool.true_or]
theorem LF_get {l : List Int} {i : Nat} (h : i < l.length) : LF l i = l[i] := by unfold LF; rw [List.getD_eq_getElem?_getD, List.getElem?_eq_getElem h]; rfl
theorem LF_out {l : List Int} {i : Nat} (h : ¬ i < l.length) : LF l i = 0 := by unfold LF; rw [List.getD_eq_getElem?_getD, List.getElem?_eq_none (by omega)]; rfl
theorem LF_mem {l : List Int} {i : Nat} (h : i < l.length) : LF l i ∈ l := by
  rw [LF_get h]; exact List.getElem_mem h
theorem LF_of {l : List Int} {x : Int} (h : x ∈ l) : ∃ i, i < l.length ∧ LF l i = x := by
  obtain ⟨i, hi, e⟩ := List.getElem_of_mem h
  exact ⟨i, hi, by rw [LF_get hi]; exact e⟩
theorem LF_asc {l : List Int} (h : l.Pairwise (· < ·)) {i : Nat} (hi : i + 1 < l.length) : LF l i < LF l (i + 1) := by
  rw [LF_get hi, LF_get (show i < l.length by omega)]
  exact List.pairwise_iff_getElem.1 h i (i + 1) (by omega) hi (by omega)
/-- The values and the table, as functions of the index. -/
theorem val_facts (f : Nat → Int) (n : Nat) (hf : ∀ j, -1000 ≤ f j ∧ f j ≤ 1000) : ∃ (K : Nat) (g : Nat → Int), (valK f n).length = K ∧ LF (valK f n) = g ∧ K ≤ n ∧ (0 < n → 0 < K) ∧ (∀ j, -1000 ≤ g j ∧ g j ≤ 1000) ∧ (∀ i, i < K → anyN f (g i) n = true) ∧ (∀ k, k < n → anyN g (f k) K = true) ∧ (∀ i, i + 1 < K → g i < g (i + 1)) := by
  refine ⟨_, _, rfl, rfl, valK_len f n, fun h => ?_, fun j => ?_, fun i hi => ?_, fun k hk => ?_, fun i hi => LF_asc (valK_asc f n) hi⟩
  · exact List.length_pos_of_mem ((valK_mem f (f 0) n).2 ⟨0, h, rfl⟩)
  · by_cases h : j < (valK f n).length
    · obtain ⟨i, -, e⟩ := (valK_mem f _ n).1 (LF_mem h)
      rw [← e]; exact hf i
    · rw [LF_out h]; omega
  · obtain ⟨j, hj, e⟩ := (valK_mem f _ n).1 (LF_mem hi)
    exact anyN_of hj e
  · obtain ⟨i, hi, e⟩ := LF_of ((valK_mem f (f k) n).2 ⟨k, hk, rfl⟩)
    exact anyN_of hi e
end Go.Proofs.Ytmmonhagceacjaa
