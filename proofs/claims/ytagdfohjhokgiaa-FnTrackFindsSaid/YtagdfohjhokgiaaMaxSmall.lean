/- Maximal taps of the small sizes: which they are to IsMaximal, and that their bits agree with each shift of themselves in one less than half. -/
import Derived.Test.YtagdfohjhokgiaaTapsI
import Derived.Test.YtagdfohjhokgiaaTapOf
import Derived.Test.YtagdfohjhokgiaaSRun
namespace Go.Proofs.Ytagdfohjhokgiaa
open Go.RowKit
set_option linter.unusedVariables false
set_option maxRecDepth 100000
/-- In how many of the first places the bits agree with the shift by k. -/
def eqC (s t n k : Nat) : Nat → Nat
  | 0 => 0
  | i + 1 => eqC s t n k i + (if (stepsN s t i 1 + stepsN s t ((k + i) % n) 1) % 2 = 0 then 1 else 0)
def goodB (s t : Nat) : Bool := (List.range (tw s - 1)).all fun k => k == 0 || Nat.beq (eqC s t (tw s - 1) k (tw s - 1) * 2 + 1) (tw s - 1)
def badB (s t : Nat) : Bool := (List.range (tw s - 1)).any fun m => !(Nat.beq (idx s t 1 m (stepsN s t m 1)) 0)
theorem small_all : ∀ s, s < 6 → 2 ≤ s → ∀ t, t < tw s → 1 ≤ t → (goodB s t || badB s t) = true := by decide +kernel
theorem small_some : ∀ s, s < 6 → 2 ≤ s → goodB s (tapOf s) = true := by decide +kernel
theorem not_bad {s t : Nat} (h : ∀ m, m < tw s - 1 → idx s t 1 m (stepsN s t m 1) = 0) : badB s t = false := by
  unfold badB
  rw [List.any_eq_false]
  intro m hm
  rw [List.mem_range] at hm
  rw [h m hm]
  decide
theorem goodB_at {s t k : Nat} (h : goodB s t = true) (h0 : 1 ≤ k) (hk : k < tw s - 1) : eqC s t (tw s - 1) k (tw s - 1) * 2 + 1 = tw s - 1 := by
  unfold goodB at h
  have h1 := List.all_eq_true.1 h k (List.mem_range.2 hk)
  rcases Bool.or_eq_true_iff.1 h1 with e | e
  · have : k = 0 := by simpa using e
    omega
  · exact Nat.eq_of_beq_eq_true e
theorem runS_okM (s t x n : Nat) : okB (runS s t x n) (runS s t x n).size = true := okB_of_zb _ fun i hi => by
  rw [runS_size] at hi
  unfold runS
  rw [zb_strF hi (by omega)]
  omega
theorem oneSmall (s t : Nat) (h2 : 2 ≤ s) (h5 : s ≤ 5) (ht : t < tw s) : ∃ bb : Bool, (bb = true → RegN s t 1 ∧ goodB s t = true) ∧ (t = tapOf s → bb = true) ∧
    (∀ w, Calls Try.prog 54 #[.int .i64 s, .int .i64 t] w fun e w' => e = .returned (.bool bb) ∧ Below w.heap.size w w') := by
  have hto := tapOf_reg s h2 h5
  by_cases h0 : t = 0
  · exact ⟨false, fun h => absurd h (by simp), fun e => absurd hto.tap (by omega), iMaximal_none _ _ (by
      cases hb : tapsB s t with
      | false => rfl
      | true => have h := (tapsB_iff _ _).1 hb; omega)⟩
  · have hr : RegN s t 1 := ⟨h2, by omega, by omega, ht, by have := tw_four s h2; omega⟩
    obtain ⟨N, hN, e0, hm⟩ := orbit_ends hr
    have hv : tapsB s t = true := (tapsB_iff _ _).2 ⟨by omega, by omega, by omega, by rw [Int.toNat_natCast]; omega⟩
    have hle := idx_le s t 1 N (stepsN s t N 1)
    have hp := tw_pos s
    refine ⟨_, fun h => ?_, fun e => ?_, iMaximal_from s t _ (by omega) hv (fun w => iPeriodOf_yes s t 1 w hr N hN e0 hm)⟩
    · refine ⟨hr, ?_⟩
      have h := of_decide_eq_true h
      have hb := not_bad (s := s) (t := t) (fun m hmm => hm m (by omega))
      have ha := small_all s (by omega) h2 t ht (by omega)
      rw [hb, Bool.or_false] at ha
      exact ha
    · subst e
      obtain ⟨-, h3, h4⟩ := tapOf_orbit s h2 h5
      have hNN : N = tw s - 1 := by
        rcases Nat.lt_trichotomy N (tw s - 1) with a | a | a
        · exact absurd (h4 N a) e0
        · exact a
        · have := hm _ a; omega
      subst hNN
      rw [h3]
      exact decide_eq_true (by omega)
theorem lst_in {M : Nat → Bool} : ∀ K j, j < cntT M K → ∃ t, t < K ∧ M t = true ∧ lstF M K j = (t : Int)
  | 0, j, h => absurd h (Nat.not_lt_zero j)
  | K + 1, j, h => by
    cases hM : M K with
    | false =>
      obtain ⟨e1, e2⟩ := cntT_no hM
      rw [e1] at h
      obtain ⟨t, h1, h2, h3⟩ := lst_in K j h
      exact ⟨t, by omega, h2, by rw [e2]; exact h3⟩
    | true =>
      obtain ⟨e1, e2⟩ := cntT_yes hM
      rw [e1] at h
      rw [e2]
      by_cases hj : j < cntT M K
      · obtain ⟨t, h1, h2, h3⟩ := lst_in K j hj
        exact ⟨t, by omega, h2, by simp only [hj, if_true]; exact h3⟩
      · exact ⟨K, by omega, hM, by simp only [hj, if_false]⟩
theorem cnt_pos {M : Nat → Bool} {t : Nat} (hM : M t = true) : ∀ K, t < K → 1 ≤ cntT M K
  | 0, h => absurd h (Nat.not_lt_zero t)
  | K + 1, h => by
    by_cases e : t = K
    · subst e; rw [(cntT_yes hM).1]; omega
    · have := cnt_pos hM K (by omega)
      simp only [cntT]; split <;> omega
/-- The maximal taps of a small size, as MaximalTaps of the program lists them. -/
theorem iTaps_small (s : Nat) (h2 : 2 ≤ s) (h5 : s ≤ 5) : ∃ (C : Nat) (L : Nat → Int), 1 ≤ C ∧ C ≤ 32 ∧ (∀ j, j < C → ∃ t : Nat, L j = t ∧ RegN s t 1 ∧ goodB s t = true) ∧
    ∀ w, Calls Try.prog 40 #[.int .i64 s] w fun e w' => ∃ v, e = .returned v ∧ OF w' w.heap.size v C L ∧ Below w.heap.size w w' := by
  have h : ∀ t : Nat, ∃ bb : Bool, t < tw s → ((bb = true → RegN s t 1 ∧ goodB s t = true) ∧ (t = tapOf s → bb = true) ∧
      (∀ w, Calls Try.prog 54 #[.int .i64 s, .int .i64 t] w fun e w' => e = .returned (.bool bb) ∧ Below w.heap.size w w')) := fun t => by
    by_cases ht : t < tw s
    · obtain ⟨bb, h⟩ := oneSmall s t h2 h5 ht; exact ⟨bb, fun _ => h⟩
    · exact ⟨false, fun h => absurd h ht⟩
  obtain ⟨M, hM⟩ := Classical.axiomOfChoice h
  have ht := tapOf_reg s h2 h5
  have h32 : tw s ≤ 32 := by
    have : s = 2 ∨ s = 3 ∨ s = 4 ∨ s = 5 := by omega
    rcases this with rfl | rfl | rfl | rfl <;> decide
  exact ⟨cntT M (tw s), lstF M (tw s), cnt_pos ((hM _ ht.tapLt).2.1 rfl) _ ht.tapLt, Nat.le_trans (cntT_le M _) h32, fun j hj => by
    obtain ⟨t, h1, h3, h4⟩ := lst_in _ j hj
    exact ⟨t, h4, (hM t h1).1 h3⟩, fun w => iTaps_of s M w h2 (by omega) (fun t ht => (hM t ht).2.2)⟩
end Go.Proofs.Ytagdfohjhokgiaa
