/- A cell without one of its stations is a cell; its path is free: the mathematics of FnRelease. -/
import Derived.Test.YtjnipbopimpggabAdmMath2
namespace Go.Proofs.Ytjnipbopimpggab
open Go.RowKit
set_option linter.unusedVariables false
theorem dig_of (g : Nat → Nat) : ∀ c, (∀ i, i < c → g i = 48 ∨ g i = 49) → ∃ n, n < tw c ∧ ∀ i, i < c → g i = digF n c i
  | 0, _ => ⟨0, tw_pos 0, fun i hi => absurd hi (Nat.not_lt_zero i)⟩
  | c + 1, h => by
    obtain ⟨m, hm, hi⟩ := dig_of g c (fun i hi => h i (by omega))
    have hc := h c (by omega)
    refine ⟨2 * m + (g c - 48), by rw [tw_succ]; omega, fun i hl => ?_⟩
    by_cases e : i = c
    · subst e
      unfold digF
      rw [show i + 1 - 1 - i = 0 by omega, show tw 0 = 1 by rfl, Nat.div_one]; omega
    · rw [hi i (by omega)]
      unfold digF
      rw [show c + 1 - 1 - i = (c - 1 - i) + 1 by omega, tw_succ, ← Nat.div_div_eq_div_mul, show (2 * m + (g c - 48)) / 2 = m by omega]
theorem path_dig {P : ByteArray} (h : pathB P = true) : ∃ n, n < tw P.size ∧ P = digS n P.size := by
  obtain ⟨n, hn, hi⟩ := dig_of (zb P) P.size (fun i hi => okB_zb P ((pathB_iff P).1 h).1 i hi)
  exact ⟨n, hn, strF_of P P.size _ rfl hi⟩
theorem allPath_of {n : Nat} {F : Nat → ByteArray} (h : ∀ i, i < n → pathB (F i) = true) : allPath n F = true := by
  unfold allPath; rw [List.all_eq_true]; exact fun i hi => h i (List.mem_range.1 hi)
theorem freeB_of {n : Nat} {F : Nat → ByteArray} {p : ByteArray} (h : ∀ i, i < n → confB p (F i) = false) : freeB n F p = true := by
  unfold freeB; rw [List.all_eq_true]; exact fun i hi => by rw [h i (List.mem_range.1 hi)]; rfl
theorem alloc_yes {n : Nat} {F : Nat → ByteArray} {P : ByteArray} (hn : n ≤ 70) (hP : pathB P = true) (hF : ∀ i, i < n → pathB (F i) = true) (hc : ∀ i, i < n → confB P (F i) = false) : (allocAns n F (P.size : Int)).2 = true := by
  have h6 := ((pathB_iff P).1 hP).2
  obtain ⟨m, hm, e⟩ := path_dig hP
  have hu : usedB n F (P.size : Int) = true := (usedB_iff _ _ _).2 ⟨hn, ⟨by omega, by omega⟩, allPath_of hF⟩
  unfold allocAns
  rw [hu, Int.toNat_natCast]
  have hmem : P ∈ frL n F P.size (tw P.size) := by
    unfold frL
    rw [List.mem_map]
    refine ⟨m, List.mem_filter.2 ⟨List.mem_range.2 hm, ?_⟩, e.symm⟩
    rw [← e]; exact freeB_of hc
  have hl : ¬ (frL n F P.size (tw P.size)).length = 0 := by
    have := List.length_pos_of_mem hmem; omega
  simp only [if_true]
  rw [if_neg hl]
theorem freeN_get {f : Nat → Usr} {i n j : Nat} (h : freeN f i n = true) (hj : j < n) : clashB (f j) (f i) = false := by
  cases e : clashB (f j) (f i) with
  | false => rfl
  | true => rw [freeN_bad e n hj] at h; cases h
theorem celN_get {f : Nat → Usr} {n i j : Nat} (h : celN f n = true) (hi : i < n) (hj : j < i) : clashB (f j) (f i) = false := by
  cases e : freeN f i i with
  | true => exact freeN_get e hj
  | false => rw [celN_bad (by rw [e, Bool.and_false]) n hi] at h; cases h
theorem celN_ne {f : Nat → Usr} {n i j : Nat} (h : celN f n = true) (hi : i < n) (hj : j < n) (hne : j ≠ i) : clashB (f j) (f i) = false := by
  rcases Nat.lt_or_ge j i with l | l
  · exact celN_get h hi l
  · rw [clash_comm]; exact celN_get h hj (by omega)
theorem celN_of {f : Nat → Usr} : ∀ n, (∀ i, i < n → (f i).stn = true ∧ ∀ j, j < i → clashB (f j) (f i) = false) → celN f n = true
  | 0, _ => rfl
  | n + 1, h => by
    simp only [celN]
    rw [celN_of n (fun i hi => h i (by omega)), (h n (by omega)).1, freeN_of n (h n (by omega)).2]; rfl
/-- Where station i of the rest stood. -/
def cutI (r i : Nat) : Nat := if i < r then i else i + 1
theorem cutU_eq (f : Nat → Usr) (r i : Nat) : cutU f r i = f (cutI r i) := by unfold cutU cutI; split <;> rfl
theorem cutI_lt {r i n : Nat} (hr : r < n + 1) (hi : i < n) : cutI r i < n + 1 ∧ cutI r i ≠ r := by unfold cutI; split <;> omega
theorem cutI_mono {r i j : Nat} (h : j < i) : cutI r j < cutI r i := by unfold cutI; split <;> split <;> omega
theorem ix_got {f : Nat → Usr} {z : ByteArray} : ∀ d k, 0 ≤ ixI f z k d → ((f (ixI f z k d).toNat).code.toList == z.toList) = true
  | 0, k, h => absurd h (by show ¬ (0 : Int) ≤ -1; decide)
  | d + 1, k, h => by
    cases hq : ((f k).code.toList == z.toList) with
    | true => rw [ix_hit hq (by omega), Int.toNat_natCast]; exact hq
    | false => rw [ix_step hq] at h ⊢; exact ix_got d (k + 1) h
theorem rl_math {n : Nat} {f : Nat → Usr} {z : ByteArray} (h : rlB n f z = true) : ∃ M r, n = M + 1 ∧ r ≤ M ∧ (ixN n f z).toNat = r ∧ M < 8 ∧
    (∀ k, k < n → ((f k).code.toList == z.toList) = decide (k = r)) ∧ cellB M (cutU f r) = true ∧ (∀ i, i < M → confB (f r).data (cutU f r i).data = false) ∧
    (∀ L, 1 ≤ L → L ≤ 20 → adB M (cutU f r) z (((f r).data.size : Nat) : Int) L = true) := by
  unfold rlB at h
  rw [Bool.and_eq_true, decide_eq_true_eq] at h
  obtain ⟨hc, h0⟩ := h
  have hb : ixN n f z < (n : Int) := by rcases ixN_bd n f z with e | e <;> omega
  obtain ⟨r, hr⟩ : ∃ r, (ixN n f z).toNat = r := ⟨_, rfl⟩
  have hz : ((f r).code.toList == z.toList) = true := by rw [← hr]; exact ix_got n 0 h0
  have hrn : r < n := by omega
  obtain ⟨M, rfl⟩ : ∃ M, n = M + 1 := ⟨n - 1, by omega⟩
  have h8 := cell_le8 hc
  have hcN : celN f (M + 1) = true := by unfold cellB at hc; rw [Bool.and_eq_true] at hc; exact hc.1
  have ez : (f r).code = z := Classical.byContradiction (fun hne => by rw [str_ne hne] at hz; cases hz)
  have hno : ∀ k, k < M + 1 → k ≠ r → ((f k).code.toList == z.toList) = false := fun k hk hne => by
    have := celN_ne hcN hrn hk hne
    unfold clashB at this
    rw [ez] at this
    exact (Bool.or_eq_false_iff.1 this).1
  have hst := (stnB_iff _ _ _ _).1 (celN_at (M + 1) hcN hrn)
  have hcell : cellB M (cutU f r) = true := by
    unfold cellB
    rw [celN_of M, decide_eq_true (by omega : M ≤ 8)]; rfl
    intro i hi
    rw [cutU_eq]
    refine ⟨celN_at (M + 1) hcN (cutI_lt hrn hi).1, fun j hj => ?_⟩
    rw [cutU_eq]
    exact celN_get hcN (cutI_lt hrn hi).1 (cutI_mono hj)
  have hpath : ∀ i, i < M → pathB (cutU f r i).data = true := fun i hi => by
    rw [cutU_eq]; exact ((stnB_iff _ _ _ _).1 (celN_at (M + 1) hcN (cutI_lt hrn hi).1)).2.1
  have hconf : ∀ i, i < M → confB (f r).data (cutU f r i).data = false := fun i hi => by
    have hcl := celN_ne hcN (cutI_lt hrn hi).1 hrn (Ne.symm (cutI_lt hrn hi).2)
    unfold clashB at hcl
    rw [Bool.or_eq_false_iff] at hcl
    unfold confB
    rw [cutU_eq, hcl.2]; simp
  refine ⟨M, r, rfl, by omega, hr, by omega, fun k hk => ?_, hcell, hconf, fun L l0 l1 => ?_⟩
  · by_cases e : k = r
    · rw [e, hz]; simp
    · rw [hno k hk e]; simp [e]
  · have hix : ixN M (cutU f r) z < 0 := by
      unfold ixN
      rw [ix_neg]
      intro i _ hi
      rw [cutU_eq]
      exact hno _ (cutI_lt hrn (by omega)).1 (cutI_lt hrn (by omega)).2
    rw [ad_at ⟨hcell, by omega, by rw [← ez]; exact hst.1, hix, (los_iff L).2 ⟨l0, l1⟩⟩]
    exact alloc_yes (by omega) hst.2.1 hpath hconf
theorem cutU_sz {M r : Nat} {f : Nat → Usr} (h : UsrSz (M + 1) f) (hr : r ≤ M) : UsrSz M (cutU f r) := fun i hi => by
  rw [cutU_eq]; exact h _ (cutI_lt (by omega) hi).1
theorem TF.past {w w' : World} {B C : Nat} {v : Value} {n : Nat} {f : Nat → Usr} {row : Option Nat} (h : TF w B v n f) (hC : ∀ q, v.ownBlock = some q → q < C) (hg : w.grownBy w' row) (hr : ∀ q, row = some q → C ≤ q) : TF w' B v n f :=
  h.kept hg (by
    cases e : v.ownBlock with
    | none => exact .inl rfl
    | some q => exact .inr (fun x => by have := hC q e; have := hr q x.symm; omega))
end Go.Proofs.Ytjnipbopimpggab
