/- A search finds the offset of a pilot with a maximal code. -/
import Derived.Test.YtagdfohjhokgiaaShape
import Derived.Test.YtagdfohjhokgiaaPil11
namespace Go.Proofs.Ytagdfohjhokgiaa
open Go.RowKit
set_option linter.unusedVariables false
theorem fq_yes (q : Nat → Bool) : ∀ m, fq q m < m → q (fq q m) = true
  | 0, h => absurd h (Nat.not_lt_zero _)
  | m + 1, h => by
    by_cases e : fq q m < m
    · have e2 : fq q (m + 1) = fq q m := by simp only [fq]; rw [if_pos e]
      rw [e2]; exact fq_yes q m e
    · cases hp : q m with
      | true =>
        have e2 : fq q (m + 1) = m := by simp only [fq]; rw [if_neg e, if_pos hp]
        rw [e2]; exact hp
      | false =>
        have e2 : fq q (m + 1) = m + 1 := by simp only [fq]; rw [if_neg e, hp]; rfl
        omega
theorem fq_some {q : Nat → Bool} {j m : Nat} (hj : j < m) (hq : q j = true) : fq q m < m := by
  rcases Nat.lt_or_ge (fq q m) m with a | a
  · exact a
  · have := fq_none (q := q) (m := m) (by have := fq_le q m; omega) j hj
    rw [hq] at this; cases this
theorem half_near {n G P at_ : Nat} (hG : 1 ≤ G) (hP : n * G = P) (hn : 3 ≤ n) (ha : at_ < P) : ∃ J, J < n ∧ dsN P at_ (J * G) ≤ G / 2 := by
  obtain ⟨q, r, rfl, hr⟩ : ∃ q r, at_ = q * G + r ∧ r < G := ⟨at_ / G, at_ % G, by rw [Nat.mul_comm]; exact (Nat.div_add_mod at_ G).symm, Nat.mod_lt _ hG⟩
  have hq : q < n := by
    rcases Nat.lt_or_ge q n with a | a
    · exact a
    · have := Nat.mul_le_mul_right G a; omega
  by_cases hr2 : r ≤ G / 2
  · exact ⟨q, hq, by unfold dsN; omega⟩
  · by_cases hq1 : q + 1 < n
    · refine ⟨q + 1, hq1, ?_⟩
      have e : (q + 1) * G = q * G + G := by rw [Nat.add_mul, Nat.one_mul]
      rw [e]; unfold dsN; omega
    · refine ⟨0, by omega, ?_⟩
      have e : P = q * G + G := by rw [← hP, show n = q + 1 by omega, Nat.add_mul, Nat.one_mul]
      rw [Nat.zero_mul]; unfold dsN; omega
theorem shV_half {n G d : Nat} (hG : 1 ≤ G) (hn : 3 ≤ n) : ((n * G : Nat) : Int) - ((G / 2 : Nat) : Int) * ((n : Int) + 1) ≤ shV n G d ↔ d ≤ G / 2 := by
  have h0 : ((G / 2 : Nat) : Int) * ((n : Int) + 1) ≤ ((n * G : Nat) : Int) := by
    have h1 : (G / 2) * (n + 1) ≤ n * G := by
      have h2 : (G / 2) * (n + 1) = (G / 2) * n + G / 2 := by rw [Nat.mul_add, Nat.mul_one]
      have h3 : n * G = n * (G / 2) + n * (G - G / 2) := by rw [← Nat.mul_add]; congr 1; omega
      have h4 : 1 * (G - G / 2) ≤ n * (G - G / 2) := Nat.mul_le_mul_right _ (by omega)
      have h5 : (G / 2) * n = n * (G / 2) := Nat.mul_comm _ _
      omega
    have := Int.ofNat_le.2 h1
    rw [Int.natCast_mul (G / 2) (n + 1)] at this
    exact this
  unfold shV
  by_cases h : d < G
  · rw [if_pos h]
    constructor
    · intro h1
      have h2 : (d : Int) * ((n : Int) + 1) ≤ ((G / 2 : Nat) : Int) * ((n : Int) + 1) := by omega
      have := Int.le_of_mul_le_mul_right h2 (by omega)
      omega
    · intro h1
      have := Int.mul_le_mul_of_nonneg_right (show (d : Int) ≤ ((G / 2 : Nat) : Int) by omega) (show (0 : Int) ≤ (n : Int) + 1 by omega)
      omega
  · rw [if_neg h]
    constructor
    · intro h1; omega
    · intro h1; omega
/-- The search in steps of a chip, with the score at half a chip as threshold. -/
theorem search_chip {c : ByteArray} {n G P at_ : Nat} {F : Nat → Int} {ga : Nat} (hr : rdB P F c (G : Int) = true) (hG : 1 ≤ G) (hG8 : G ≤ 8) (hn : 3 ≤ n) (hP : n * G = P) (hPP : perL c (G : Int) = P) (ha : at_ < P) (hga : 1 ≤ ga)
    (hs : ∀ o, o < P → stF P F c (G : Int) o = (ga : Int) * shV n G (dsN P at_ o)) :
    ∃ J : Nat, J < n ∧ J * G < P ∧ dsN P (J * G) at_ ≤ G / 2 ∧ lkAns P F c (G : Int) (G : Int) ((ga : Int) * (((n * G : Nat) : Int) - ((G / 2 : Nat) : Int) * ((n : Int) + 1))) = (((J * G : Nat) : Int), (J : Int) + 1) := by
  rw [lk_eq hr hG hG8]
  obtain ⟨T, hT⟩ : ∃ T, (ga : Int) * (((n * G : Nat) : Int) - ((G / 2 : Nat) : Int) * ((n : Int) + 1)) = T := ⟨_, rfl⟩
  rw [hT, hPP]
  have hlt : ∀ J, J < n → J * G < P := fun J hJ => by rw [← hP]; exact Nat.mul_lt_mul_of_pos_right hJ (by omega)
  have hq : ∀ J, J < n → (lkQ P F c (G : Int).toNat P G T J = true ↔ dsN P at_ (J * G) ≤ G / 2) := fun J hJ => by
    have h1 := hs (J * G) (hlt J hJ)
    unfold stF at h1
    rw [hPP] at h1
    unfold lkQ
    rw [decide_eq_true_eq, h1, ← hT]
    rw [← shV_half (d := dsN P at_ (J * G)) hG hn]
    exact ⟨fun h => Int.le_of_mul_le_mul_left h (by omega), fun h => Int.mul_le_mul_of_nonneg_left h (by omega)⟩
  have hln : lkN P G = n := by
    unfold lkN
    rw [← hP]
    rw [show n * G + G - 1 = G * n + (G - 1) by rw [Nat.mul_comm n G]; omega, Nat.mul_add_div (by omega), Nat.div_eq_of_lt (by omega), Nat.add_zero]
  obtain ⟨J0, hJ0, hd0⟩ := half_near (at_ := at_) hG hP hn ha
  rw [hln]
  have hlt2 := fq_some hJ0 ((hq J0 hJ0).2 hd0)
  have hy := fq_yes _ _ hlt2
  obtain ⟨J, hJ⟩ : ∃ J, fq (lkQ P F c (G : Int).toNat P G T) n = J := ⟨_, rfl⟩
  rw [hJ] at hlt2 hy ⊢
  rw [if_pos hlt2]
  refine ⟨J, hlt2, hlt J hlt2, ?_, rfl⟩
  have := (hq J hlt2).1 hy
  unfold dsN at this ⊢
  omega
/-- The search in steps of one sample, with the full score as threshold. -/
theorem search_one {c : ByteArray} {n G P at_ : Nat} {F : Nat → Int} {ga : Nat} (hr : rdB P F c (G : Int) = true) (hG : 1 ≤ G) (hn : 3 ≤ n) (hP : n * G = P) (hPP : perL c (G : Int) = P) (ha : at_ < P) (hga : 1 ≤ ga)
    (hs : ∀ o, o < P → stF P F c (G : Int) o = (ga : Int) * shV n G (dsN P at_ o)) : lkAns P F c (G : Int) ((1 : Nat) : Int) ((ga : Int) * (P : Int)) = ((at_ : Int), (at_ : Int) + 1) := by
  have e0 : shV n G 0 = (P : Int) := by unfold shV; rw [if_pos (by omega), hP]; omega
  have hf := lk_found (t := (ga : Int) * (P : Int)) (s := 1) (j := at_) hr (by omega) (by omega) (by rw [hPP, Nat.mul_one]; exact ha) (by
    have h1 := hs at_ ha
    unfold stF at h1
    rw [hPP] at h1 ⊢
    refine lkQ_yes ?_
    rw [Nat.mul_one, h1, show dsN P at_ at_ = 0 by unfold dsN; omega, e0]
    omega) (fun i hi => by
    have h1 := hs i (by omega)
    unfold stF at h1
    rw [hPP] at h1 ⊢
    refine lkQ_no ?_
    rw [Nat.mul_one, h1]
    have h2 : 1 ≤ dsN P at_ i := by unfold dsN; omega
    have h3 := shV_top (n := n) (G := G) (by omega) h2 hn
    rw [e0] at h3
    have := Int.mul_lt_mul_of_pos_left h3 (show (0 : Int) < (ga : Int) by omega)
    omega)
  rw [hf, Nat.mul_one]
end Go.Proofs.Ytagdfohjhokgiaa
