/- What a step of power control does to a cell. -/
import Derived.Test.YtjnipbopimpggabCel6
import Derived.Test.YtjnipbopimpggabCel8
import Derived.Test.YtjnipbopimpggabSsCells
namespace Go.Proofs.Ytjnipbopimpggab
open Go.RowKit
set_option linter.unusedVariables false
theorem stepI_cases {g M : Int} : (M = g ∧ stepI M g = 0) ∨ (g < M ∧ stepI M g = 1) ∨ (M < g ∧ stepI M g = -1) := by
  unfold stepI
  by_cases h1 : M < g
  · right; right; exact ⟨h1, by rw [if_pos h1]⟩
  · by_cases h2 : g < M
    · right; left; exact ⟨h2, by rw [if_neg h1, if_pos h2]⟩
    · left; exact ⟨by omega, by rw [if_neg h1, if_neg h2]⟩
theorem psF_free (T : Int) (f : Nat → Usr) (i : Nat) : ∀ m, freeN (psF T f) i m = freeN f i m
  | 0 => rfl
  | m + 1 => by simp only [freeN]; rw [psF_free T f i m]; rfl
theorem psF_stn {T : Int} {u : Usr} (h : u.stn = true) (ht : tgB T = true) : (psU T u).stn = true := by
  obtain ⟨h1, h2, g0, g1, d0, d1⟩ := (stnB_iff _ _ _ _).1 h
  obtain ⟨t0, t1⟩ := (tg_iff T).1 ht
  obtain ⟨m0, m1⟩ := mul_goal t0 t1 d0 d1
  have hc := stepI_cases (g := u.gain) (M := T * u.delay)
  refine (stnB_iff _ _ _ _).2 ⟨h1, h2, ?_, ?_, d0, d1⟩
  · show 0 ≤ u.gain + stepI (T * u.delay) u.gain
    omega
  · show u.gain + stepI (T * u.delay) u.gain ≤ 1000
    omega
theorem psF_celN {T : Int} {f : Nat → Usr} (ht : tgB T = true) : ∀ n, celN f n = true → celN (psF T f) n = true
  | 0, _ => rfl
  | n + 1, h => by
    simp only [celN, Bool.and_eq_true] at h ⊢
    exact ⟨psF_celN ht n h.1, psF_stn h.2.1 ht, by rw [psF_free]; exact h.2.2⟩
theorem psF_cell {n : Nat} {T : Int} {f : Nat → Usr} (h : cellB n f = true) (ht : tgB T = true) : cellB n (psF T f) = true := by
  unfold cellB at h ⊢
  simp only [Bool.and_eq_true] at h ⊢
  exact ⟨psF_celN ht n h.1, h.2⟩
theorem psF_df (T : Int) (f : Nat → Usr) (i : Nat) : abI (dfF (psF T f) T i) = max (abI (dfF f T i) - 1) 0 := by
  show abI (T * (f i).delay - ((f i).gain + stepI (T * (f i).delay) (f i).gain)) = max (abI (T * (f i).delay - (f i).gain) - 1) 0
  obtain ⟨M, hM⟩ : ∃ M, T * (f i).delay = M := ⟨_, rfl⟩
  rw [hM]
  have hc := stepI_cases (g := (f i).gain) (M := M)
  unfold abI
  omega
theorem psF_mx (T : Int) (f : Nat → Usr) : ∀ n, mxA 0 (dfF (psF T f) T) n = max (mxA 0 (dfF f T) n - 1) 0
  | 0 => by simp only [mxA]; omega
  | n + 1 => by
    simp only [mxA]
    rw [psF_mx T f n, psF_df]
    have := mxA_le 0 (dfF f T) n
    omega
theorem psF_time {n : Nat} {T : Int} {f : Nat → Usr} (h : cellB n f = true) (ht : tgB T = true) : tmV n (psF T f) T = max (tmV n f T - 1) 0 := by
  rw [← tmV_yes (psF_cell h ht) ht, ← tmV_yes h ht]
  exact psF_mx T f n
theorem psF_same (T : Int) (f : Nat → Usr) : ∀ n, gnB (psF T f) f n = true ↔ mxA 0 (dfF f T) n = 0
  | 0 => by simp [gnB, mxA]
  | n + 1 => by
    have ih := psF_same T f n
    have h0 := mxA_le 0 (dfF f T) n
    have h2 : (psF T f n).gain = (f n).gain + stepI (T * (f n).delay) (f n).gain := rfl
    have h3 : dfF f T n = T * (f n).delay - (f n).gain := rfl
    have hc := stepI_cases (g := (f n).gain) (M := T * (f n).delay)
    have e1 : gnB (psF T f) f (n + 1) = true ↔ gnB (psF T f) f n = true ∧ (psF T f n).gain = (f n).gain := by simp only [gnB, Bool.and_eq_true, decide_eq_true_eq]
    have e2 : mxA 0 (dfF f T) (n + 1) = max (mxA 0 (dfF f T) n) (abI (dfF f T n)) := rfl
    rw [e1, e2, ih, h2]
    unfold abI
    rw [h3]
    omega
theorem psF_still {n : Nat} {T : Int} {f : Nat → Usr} (h : cellB n f = true) (ht : tgB T = true) : gnB (psF T f) f n = decide (tmV n f T = 0) := by
  rw [← tmV_yes h ht, Bool.eq_iff_iff, decide_eq_true_eq]; exact psF_same T f n
theorem tm_nonneg {n : Nat} {T : Int} {f : Nat → Usr} (h : cellB n f = true) (ht : tgB T = true) : 0 ≤ tmV n f T ∧ tmV n f T ≤ 1000 := by
  rw [← tmV_yes h ht]
  exact ⟨mxA_le 0 _ _, mxA_bd (by omega) n (fun i hi => dfF_bd h ht hi)⟩
theorem tm_none {n : Nat} {T : Int} {f : Nat → Usr} (h : psB n f T = false) : tmV n f T = -1 := by
  unfold psB at h
  unfold tmV
  cases h1 : cellB n f with
  | false => simp
  | true =>
    rw [h1, Bool.true_and] at h
    rw [h]; simp
theorem ps_parts {n : Nat} {T : Int} {f : Nat → Usr} (h : psB n f T = true) : cellB n f = true ∧ tgB T = true := by
  unfold psB at h
  rw [Bool.and_eq_true] at h
  exact h
theorem psF_sz {n : Nat} {T : Int} {f : Nat → Usr} (h : UsrSz n f) : UsrSz n (psF T f) := fun i hi => h i hi
end Go.Proofs.Ytjnipbopimpggab
