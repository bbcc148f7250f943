/- Plain mathematics of preferred pairs: either order; in order; as many as there are. -/
import Derived.Test.YtmlmpekhcnjehaaPrsE
import Derived.Test.YtmlmpekhcnjehaaSeqAlg
namespace Go.Proofs.Ytmlmpekhcnjehaa
open Go.RowKit
set_option linter.unusedVariables false
set_option maxRecDepth 100000
theorem okAll_all (t : Int) (l : List Int) : okAll t l.length (LF l) = true ↔ ∀ y, y ∈ l → okV t y = true := by
  unfold okAll
  rw [List.all_eq_true]
  refine ⟨fun h y hy => ?_, fun h j hj => ?_⟩
  · obtain ⟨j, hj, e⟩ := List.getElem_of_mem hy
    have := h j (List.mem_range.2 hj)
    rw [show LF l j = y by unfold LF; rw [List.getD_eq_getElem?_getD, List.getElem?_eq_getElem hj, e]; rfl] at this
    exact this
  · have hj' := List.mem_range.1 hj
    have := h l[j] (List.getElem_mem hj')
    rw [show LF l j = l[j] by unfold LF; rw [List.getD_eq_getElem?_getD, List.getElem?_eq_getElem hj']; rfl]
    exact this
theorem prefT_iff {S a b : Int} (ha : tapsB S a = true) (hb : tapsB S b = true) : prefT S a b = true ↔ ∀ j, j < (perS S a).size → okV (goldA S) (crossN (perS S a) (perS S b) j) = true := by
  have hp : pairB (perS S a) (perS S b) = true := (pairB_iff _ _).2 ⟨perS_seq ha, perS_seq hb, perS_len⟩
  unfold prefT valN valF
  rw [okAll_all]
  have hn : tabN (perS S a) (perS S b) = (perS S a).size := by unfold tabN; rw [if_pos hp]
  refine ⟨fun h j hj => h _ ((valK_mem _ _ _).2 ⟨j, by rw [hn]; exact hj, rfl⟩), fun h y hy => ?_⟩
  obtain ⟨j, hj, rfl⟩ := (valK_mem _ _ _).1 hy
  rw [hn] at hj
  exact h j hj
theorem prefT_half {S a b : Int} (ha : tapsB S a = true) (hb : tapsB S b = true) (h : prefT S a b = true) : prefT S b a = true := by
  rw [prefT_iff hb ha]
  rw [prefT_iff ha hb] at h
  intro j hj
  have hl : (perS S b).size = (perS S a).size := perS_len
  have h0 : 0 < (perS S b).size := by have := ((seqB_iff _).1 (perS_seq hb)).2.1; omega
  have e := cross_swap (perS S b) (perS S a) j hl h0
  rw [modN_of_nat, Nat.mod_eq_of_lt (show j < _ by omega)] at e
  rw [← e]
  exact h _ (by rw [← hl]; exact modN_lt _ _ h0)
theorem prefT_symm {S a b : Int} (ha : tapsB S a = true) (hb : tapsB S b = true) : prefT S b a = prefT S a b := by
  cases h : prefT S a b with
  | true => exact prefT_half ha hb h
  | false =>
    cases h2 : prefT S b a with
    | false => rfl
    | true => rw [prefT_half hb ha h2] at h; cases h
/-- How many picked numbers lie ahead of place i. -/
def colN (T : Nat → Nat → Bool) (i : Nat) : Nat → Nat
  | 0 => 0
  | k + 1 => colN T i k + if T k i = true then 1 else 0
def totN (T : Nat → Nat → Bool) : Nat → Nat
  | 0 => 0
  | i + 1 => totN T i + colN T i i
theorem row_more (F : Nat → Int) (T : Nat → Nat → Bool) (k n : Nat) : (rowL F T k (n + 1)).length = (rowL F T k n).length + if k < n ∧ T k n = true then 1 else 0 := by
  simp only [rowL]
  rw [List.length_append]
  split <;> rfl
theorem all_more (F : Nat → Int) (T : Nat → Nat → Bool) (n : Nat) : ∀ k, k ≤ n → (allL F T (n + 1) k).length = (allL F T n k).length + colN T n k
  | 0, _ => rfl
  | k + 1, h => by
    simp only [allL, colN]
    rw [List.length_append, List.length_append, all_more F T n k (by omega), row_more]
    have : (k < n ∧ T k n = true) ↔ T k n = true := ⟨fun h => h.2, fun h' => ⟨by omega, h'⟩⟩
    simp only [this]
    omega
theorem all_tot (F : Nat → Int) (T : Nat → Nat → Bool) : ∀ n, (allL F T n n).length = totN T n
  | 0 => rfl
  | n + 1 => by
    have h1 := all_more F T n n (Nat.le_refl _)
    show (allL F T (n + 1) n ++ rowL F T n (n + 1)).length = totN T n + colN T n n
    rw [List.length_append, h1, all_tot F T n, rowL_skip (n + 1) (Nat.le_refl _)]
    rfl
theorem mem_row {F : Nat → Int} {T : Nat → Nat → Bool} {k : Nat} {x : Int × Int} : ∀ m, x ∈ rowL F T k m → ∃ j, k < j ∧ j < m ∧ x = (F k, F j)
  | 0, h => by cases h
  | m + 1, h => by
    simp only [rowL] at h
    rcases List.mem_append.1 h with h | h
    · obtain ⟨j, h1, h2, h3⟩ := mem_row m h; exact ⟨j, h1, by omega, h3⟩
    · split at h
      · rename_i hc; exact ⟨m, hc.1, by omega, by simpa using h⟩
      · cases h
theorem mem_all {F : Nat → Int} {T : Nat → Nat → Bool} {n : Nat} {x : Int × Int} : ∀ k, x ∈ allL F T n k → ∃ i j, i < k ∧ i < j ∧ j < n ∧ x = (F i, F j)
  | 0, h => by cases h
  | k + 1, h => by
    simp only [allL] at h
    rcases List.mem_append.1 h with h | h
    · obtain ⟨i, j, h1, h2⟩ := mem_all k h; exact ⟨i, j, by omega, h2⟩
    · obtain ⟨j, h1, h2, h3⟩ := mem_row n h; exact ⟨k, j, by omega, h1, h2, h3⟩
def lexP (x y : Int × Int) : Prop := x.1 < y.1 ∨ x.1 = y.1 ∧ x.2 < y.2
theorem row_lex {F : Nat → Int} {T : Nat → Nat → Bool} {k n : Nat} (hup : ∀ i j, i < j → j < n → F i < F j) : ∀ m, m ≤ n → (rowL F T k m).Pairwise lexP
  | 0, _ => List.Pairwise.nil
  | m + 1, h => by
    simp only [rowL]
    rw [List.pairwise_append]
    refine ⟨row_lex hup m (by omega), by split <;> simp, fun x hx y hy => ?_⟩
    obtain ⟨j, h1, h2, rfl⟩ := mem_row m hx
    split at hy
    · rw [List.mem_singleton] at hy
      subst hy
      exact .inr ⟨rfl, hup j m h2 (by omega)⟩
    · cases hy
theorem all_lex {F : Nat → Int} {T : Nat → Nat → Bool} {n : Nat} (hup : ∀ i j, i < j → j < n → F i < F j) : ∀ k, k ≤ n → (allL F T n k).Pairwise lexP
  | 0, _ => List.Pairwise.nil
  | k + 1, h => by
    simp only [allL]
    rw [List.pairwise_append]
    refine ⟨all_lex hup k (by omega), row_lex hup n (Nat.le_refl _), fun x hx y hy => ?_⟩
    obtain ⟨i, j, h1, -, -, rfl⟩ := mem_all k hx
    obtain ⟨j', -, -, rfl⟩ := mem_row n hy
    exact .inl (hup i k h1 (by omega))
theorem LP_at {l : List (Int × Int)} {i : Nat} (h : i < l.length) : LP l i = l[i] := by
  unfold LP; rw [List.getD_eq_getElem?_getD, List.getElem?_eq_getElem h]; rfl
theorem all_facts {F : Nat → Int} {T : Nat → Nat → Bool} {n : Nat} (hup : ∀ i j, i < j → j < n → F i < F j) {l : List (Int × Int)} (hl : l = allL F T n n) :
    (∀ i, i < l.length → (LP l i).1 < (LP l i).2) ∧ ∀ i, i + 1 < l.length → lexP (LP l i) (LP l (i + 1)) := by
  subst hl
  refine ⟨fun i hi => ?_, fun i hi => ?_⟩
  · rw [LP_at hi]
    obtain ⟨a, b, h1, h2, h3, e⟩ := mem_all n (List.getElem_mem hi)
    rw [e]
    exact hup a b h2 h3
  · rw [LP_at (show i < _ by omega), LP_at hi]
    exact List.pairwise_iff_getElem.1 (all_lex hup n (Nat.le_refl _)) i (i + 1) (by omega) hi (by omega)
end Go.Proofs.Ytmlmpekhcnjehaa
