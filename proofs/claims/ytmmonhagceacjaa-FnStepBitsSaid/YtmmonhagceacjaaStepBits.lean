/- Plain mathematics for the law FnStepBits. -/
import Derived.Test.YtmmonhagceacjaaRegSeq
import Derived.Test.YtmmonhagceacjaaSRun
namespace Go.Proofs.Ytmmonhagceacjaa
open Go.RowKit
theorem tsum_le {t : Nat} {f : Nat → Nat} (h : ∀ i, f i ≤ 1) : ∀ m, tsum t f m ≤ m
  | 0 => Nat.le_refl _
  | m + 1 => by
    have := tsum_le (t := t) h m
    have := h m
    simp only [tsum]
    by_cases e : bitN t m = 1
    · simp only [if_pos e]; omega
    · simp only [if_neg e]; omega
/-- The digit of a number, as the program takes it. -/
theorem digit_int (x j : Nat) : ∃ T Q : Nat, tw j = T ∧ 1 ≤ T ∧ (x : Int) / (T : Int) = (Q : Int) ∧ (x : Int).tdiv (T : Int) = (Q : Int) ∧ Q ≤ x ∧ (Q : Int) % 2 = ((bitN x j : Nat) : Int) ∧ (Q : Int).tmod 2 = ((bitN x j : Nat) : Int) := by
  have hb : bitN x j = x / tw j % 2 := rfl
  have e1 : (x : Int) / ((tw j : Nat) : Int) = ((x / tw j : Nat) : Int) := (Int.natCast_ediv _ _).symm
  have hp := tw_pos j
  have hl := Nat.div_le_self x (tw j)
  obtain ⟨T, hT⟩ : ∃ T, tw j = T := ⟨_, rfl⟩
  rw [hT] at hb e1 hp hl
  obtain ⟨Q, hQ⟩ : ∃ Q, x / T = Q := ⟨_, rfl⟩
  rw [hQ] at hb e1 hl
  refine ⟨T, Q, hT, hp, e1, ?_, hl, ?_, ?_⟩
  · rw [Int.tdiv_eq_ediv_of_nonneg (by omega)]; exact e1
  · omega
  · rw [Int.tmod_eq_emod_of_nonneg (by omega)]; omega
theorem byte_facts (c v : Nat) (h : c = 48 + v) (hv : v ≤ 1) : ((c : Nat) : Int) - 48 = (v : Int) ∧ wrap64 ((c : Int) - 48) = (v : Int) ∧ IntKind.i64.wrap ((c : Int) - 48) = (v : Int) ∧ wrap64 (c : Int) = (c : Int) ∧ IntKind.i64.wrap (c : Int) = (c : Int) := by
  subst h
  have e : (((48 + v : Nat) : Int)) - 48 = (v : Int) := by omega
  refine ⟨e, ?_, ?_, ?_, ?_⟩
  · rw [e]; exact IntWalk.wrap64_in _ (by omega)
  · rw [e]; exact IntWalk.i64_in _ (by omega)
  · exact IntWalk.wrap64_in _ (by omega)
  · exact IntWalk.i64_in _ (by omega)
theorem digit_facts (x i : Nat) (hx : x < 256) (hi : i ≤ 8) : ∃ T Q : Nat, wrap64 ((2 : Int) ^ i) = (T : Int) ∧ IntKind.i64.wrap ((2 : Int) ^ i) = (T : Int) ∧ ¬ ((T : Int) = 0) ∧ ((T : Int) == 0) = false ∧
    (x : Int) / (T : Int) = (Q : Int) ∧ (x : Int).tdiv (T : Int) = (Q : Int) ∧ IntKind.i64.wrap (Q : Int) = (Q : Int) ∧ (Q : Int) % 2 = ((bitN x i : Nat) : Int) ∧ (Q : Int).tmod 2 = ((bitN x i : Nat) : Int) ∧ IntKind.i64.wrap ((bitN x i : Nat) : Int) = ((bitN x i : Nat) : Int) ∧ Q < 256 := by
  obtain ⟨T, Q, hT, T1, d1, d2, d3, d4, d5⟩ := digit_int x i
  have hw := wrap_tw i hi
  have hl := tw_le i hi
  have hb := bitN_lt x i
  rw [hT] at hw hl
  have e : IntKind.i64.wrap ((2 : Int) ^ i) = (T : Int) := by rw [int_tw, hT]; exact IntWalk.i64_in _ (by clear hw d1 d2 d4 d5; omega)
  refine ⟨T, Q, hw, e, by clear hw e d1 d2 d4 d5; omega, ?_, d1, d2, ?_, d4, d5, ?_, by clear hw e d1 d2 d4 d5; omega⟩
  · rw [beq_eq_false_iff_ne]; clear hw e d1 d2 d4 d5; omega
  · exact IntWalk.i64_in _ (by clear hw e d1 d2 d4 d5; omega)
  · exact IntWalk.i64_in _ (by clear hw e d1 d2 d4 d5; omega)
end Go.Proofs.Ytmmonhagceacjaa
