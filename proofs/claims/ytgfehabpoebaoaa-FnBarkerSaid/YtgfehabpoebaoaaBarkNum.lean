/- Barker codes among the numbers of few digits. -/
import Derived.Test.YtgfehabpoebaoaaFam2
namespace Go.Proofs.Ytgfehabpoebaoaa
open Go.RowKit
set_option linter.unusedVariables false
set_option maxRecDepth 100000
/-- In how many of the first pairs of digits at the distance j both differ. -/
def dfC (k c j : Nat) : Nat → Nat
  | 0 => 0
  | i + 1 => dfC k c j i + (k / tw (c - 1 - i) + k / tw (c - 1 - (j + i))) % 2
def smC (n d : Nat) : Bool := Nat.ble n (2 * d + 1) && Nat.ble (2 * d) (n + 1)
def bkTo (k c : Nat) : Nat → Bool
  | 0 => true
  | m + 1 => (smC (m + 1) (dfC k c (c - (m + 1)) (m + 1))) && bkTo k c m
/-- Is the number of c digits a Barker code? -/
def bkN (k c : Nat) : Bool := bkTo k c (c - 1)
theorem bk_none : ∀ c, c = 6 ∨ c = 8 ∨ c = 9 ∨ c = 10 ∨ c = 12 → (List.range (tw c)).all (fun k => !(bkN k c)) = true := by
  intro c h
  rcases h with rfl | rfl | rfl | rfl | rfl
  all_goals decide +kernel
def bkW (c : Nat) : Nat := if c ≤ 2 then 0 else if c ≤ 4 then 1 else if c = 5 then 2 else if c = 7 then 13 else if c = 11 then 237 else 202
theorem bk_some : ∀ c, c = 1 ∨ c = 2 ∨ c = 3 ∨ c = 4 ∨ c = 5 ∨ c = 7 ∨ c = 11 ∨ c = 13 → bkN (bkW c) c = true ∧ bkW c < tw (c - 1) := by
  intro c h
  rcases h with rfl | rfl | rfl | rfl | rfl | rfl | rfl | rfl
  all_goals exact ⟨by decide +kernel, by decide⟩
theorem zb_dig {k c i : Nat} (hi : i < c) : zb (digS k c) i = 48 + k / tw (c - 1 - i) % 2 := zb_strF hi (digF_lt k c i)
theorem aper_dig (k c j : Nat) (hj : j < c) : ∀ n, n ≤ c - j → sumI (fun i => agr (zb (digS k c) i) (zb (digS k c) (j + i))) n = (n : Int) - 2 * (dfC k c j n : Int)
  | 0, _ => by simp [sumI, dfC]
  | n + 1, h => by
    have ih := aper_dig k c j hj n (by omega)
    show sumI (fun i => agr (zb (digS k c) i) (zb (digS k c) (j + i))) n + agr (zb (digS k c) n) (zb (digS k c) (j + n)) = _
    rw [ih, zb_dig (by omega), zb_dig (by omega)]
    show _ = ((n + 1 : Nat) : Int) - 2 * ((dfC k c j n + (k / tw (c - 1 - n) + k / tw (c - 1 - (j + n))) % 2 : Nat) : Int)
    unfold agr
    split <;> omega
theorem sm_iff (n d : Nat) : smC n d = smallB ((n : Int) - 2 * (d : Int)) := by
  unfold smC smallB
  have e1 : Nat.ble n (2 * d + 1) = decide ((n : Int) - 2 * (d : Int) ≤ 1) := by
    rw [Bool.eq_iff_iff, decide_eq_true_eq, Nat.ble_eq]; omega
  have e2 : Nat.ble (2 * d) (n + 1) = decide (-1 ≤ (n : Int) - 2 * (d : Int)) := by
    rw [Bool.eq_iff_iff, decide_eq_true_eq, Nat.ble_eq]; omega
  rw [e1, e2, Bool.and_comm]
theorem bkTo_iff (k c : Nat) : ∀ m, m < c → (bkTo k c m = true ↔ ∀ j, c - m ≤ j → j < c → smallB (aperN (digS k c) j) = true)
  | 0, h => ⟨fun _ j h1 h2 => by omega, fun _ => rfl⟩
  | m + 1, h => by
    have ih := bkTo_iff k c m (by omega)
    have e : smC (m + 1) (dfC k c (c - (m + 1)) (m + 1)) = smallB (aperN (digS k c) (c - (m + 1))) := by
      rw [sm_iff]
      unfold aperN
      rw [digS_size, show c - (c - (m + 1)) = m + 1 by omega, aper_dig k c (c - (m + 1)) (by omega) (m + 1) (by omega)]
    show (smC (m + 1) (dfC k c (c - (m + 1)) (m + 1)) && bkTo k c m) = true ↔ _
    rw [Bool.and_eq_true, e, ih]
    constructor
    · intro ⟨h1, h2⟩ j h3 h4
      by_cases hj : j = c - (m + 1)
      · subst hj; exact h1
      · exact h2 j (by omega) h4
    · intro h1
      exact ⟨h1 _ (Nat.le_refl _) (by omega), fun j h3 h4 => h1 j (by omega) h4⟩
theorem dig_ok (k c : Nat) : okB (digS k c) (digS k c).size = true := okB_of_zb _ fun i hi => by
  rw [digS_size] at hi
  rw [zb_dig hi]; omega
theorem bark_num (k c : Nat) (h1 : 1 ≤ c) (h13 : c ≤ 13) : barkP c k = bkN k c := by
  rw [Bool.eq_iff_iff]
  unfold barkP barkB bkN
  have hq : seqB (digS k c) = true := (seqB_iff _).2 ⟨dig_ok k c, by rw [digS_size]; omega, by rw [digS_size]; omega⟩
  rw [hq, Bool.true_and, bkTo_iff k c (c - 1) (by omega), digS_size]
  unfold barkTo
  rw [List.all_eq_true]
  constructor
  · intro h j h2 h3
    have := h j (List.mem_range.2 h3)
    rcases Bool.or_eq_true_iff.1 this with e | e
    · have : j = 0 := by simpa using e
      omega
    · exact e
  · intro h j hj
    rw [List.mem_range] at hj
    by_cases h0 : j = 0
    · subst h0; rfl
    · rw [h j (by omega) hj, Bool.or_true]
theorem firstN_yesB (p : Nat → Bool) : ∀ n, firstN p n < n → p (firstN p n) = true
  | 0, h => absurd h (Nat.not_lt_zero _)
  | n + 1, h => by
    by_cases e : firstN p n < n
    · have e2 : firstN p (n + 1) = firstN p n := by simp only [firstN]; rw [if_pos e]
      rw [e2]; exact firstN_yesB p n e
    · cases hp : p n with
      | true =>
        have e2 : firstN p (n + 1) = n := by simp only [firstN]; rw [if_neg e, if_pos hp]
        rw [e2]; exact hp
      | false =>
        have e2 : firstN p (n + 1) = n + 1 := by simp only [firstN]; rw [if_neg e, hp]; rfl
        omega
theorem firstN_lt {p : Nat → Bool} {m : Nat} (hp : p m = true) : ∀ n, m < n → firstN p n ≤ m ∧ p (firstN p n) = true
  | 0, h => absurd h (Nat.not_lt_zero m)
  | n + 1, h => by
    by_cases e : firstN p n < n
    · have e2 : firstN p (n + 1) = firstN p n := by simp only [firstN]; rw [if_pos e]
      rw [e2]
      by_cases hm : m < n
      · exact firstN_lt hp n hm
      · have hmn : m = n := by omega
        exact ⟨by omega, firstN_yesB p n e⟩
    · have hle := firstN_le p n
      have he : firstN p n = n := by omega
      have hno := firstN_none he
      have hmn : m = n := by
        rcases Nat.lt_or_ge m n with a | a
        · have := hno m a; rw [hp] at this; cases this
        · omega
      subst hmn
      have e2 : firstN p (m + 1) = m := by simp only [firstN]; rw [if_neg e, if_pos hp]
      rw [e2]; exact ⟨Nat.le_refl _, hp⟩
/-- The lengths without a Barker code. -/
theorem bark_no (c : Nat) (h : c = 6 ∨ c = 8 ∨ c = 9 ∨ c = 10 ∨ c = 12) : firstBark (c : Int) = noS := by
  have h1 := List.all_eq_true.1 (bk_none c h)
  refine firstBark_none ?_
  have hz : ∀ k, k < tw c → barkP c k = false := fun k hk => by
    have := h1 k (List.mem_range.2 hk)
    rw [bark_num k c (by omega) (by omega)]
    simpa using this
  have : ∀ n, n ≤ tw c → firstN (barkP c) n = n := by
    intro n
    induction n with
    | zero => intro _; rfl
    | succ n ih =>
      intro hn
      have e := ih (by omega)
      simp only [firstN]
      rw [e, if_neg (Nat.lt_irrefl _), hz n (by omega)]
      rfl
  exact this _ (Nat.le_refl _)
/-- The first Barker code of the other lengths begins with 0. -/
theorem bark_yes (c : Nat) (h : c = 1 ∨ c = 2 ∨ c = 3 ∨ c = 4 ∨ c = 5 ∨ c = 7 ∨ c = 11 ∨ c = 13) : ∃ z : ByteArray, firstBark (c : Int) = (z, true) ∧ z.size = c ∧ barkB z = true ∧ zb z 0 = 48 := by
  obtain ⟨h1, h2⟩ := bk_some c h
  have hc : 1 ≤ c ∧ c ≤ 13 := by omega
  have ht : tw (c - 1) ≤ tw c := Nat.pow_le_pow_right (by omega) (by omega)
  rw [← bark_num _ _ hc.1 hc.2] at h1
  obtain ⟨h3, h4⟩ := firstN_lt h1 (tw c) (by omega)
  refine ⟨digS (firstN (barkP c) (tw c)) c, ?_, digS_size _ _, h4, ?_⟩
  · unfold firstBark
    rw [if_pos (by omega), Int.toNat_natCast, if_pos (by omega)]
  · rw [zb_dig (by omega), Nat.sub_zero, Nat.div_eq_of_lt (by omega)]
end Go.Proofs.Ytgfehabpoebaoaa
