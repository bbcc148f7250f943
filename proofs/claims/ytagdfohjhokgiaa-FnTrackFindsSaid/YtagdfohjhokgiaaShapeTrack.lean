/- The loop comes nearer to the offset of a pilot with a maximal code. -/
import Derived.Test.YtagdfohjhokgiaaShape
namespace Go.Proofs.Ytagdfohjhokgiaa
open Go.RowKit
set_option linter.unusedVariables false
theorem tm_modT (x : Int) (P : Nat) (h : 1 ≤ P) : (x.tmod (P : Int) + (P : Int)).tmod (P : Int) = (modN x P : Int) := by
  have hl := modN_lt x P (by omega)
  by_cases h0 : 0 ≤ x.tmod (P : Int)
  · rw [tmod_pos x P (by omega) h0, Int.tmod_eq_emod_of_nonneg (by omega), Int.add_emod_right, Int.emod_eq_of_lt (by omega) (by omega)]
  · rw [tmod_neg x P (by omega) (by omega), Int.tmod_eq_emod_of_nonneg (by omega), Int.emod_eq_of_lt (by omega) (by omega)]
theorem modN_plus_mod (a b : Int) (P : Nat) (h : 1 ≤ P) : modN ((modN a P : Int) + b) P = modN (a + b) P := by
  have h1 := modN_eq a P (by omega)
  have h2 := modN_eq ((modN a P : Int) + b) P (by omega)
  have h3 := modN_eq (a + b) P (by omega)
  rw [h1, Int.emod_add_emod] at h2
  have h4 : ((modN ((modN a P : Int) + b) P : Nat) : Int) = ((modN (a + b) P : Nat) : Int) := by rw [h3, ← h2, h1]
  omega
theorem shV_lt {n G a b : Nat} (hn : 3 ≤ n) (ha : a < G) (hab : a < b) : shV n G b < shV n G a := by
  unfold shV
  rw [if_pos ha]
  have h1 : ((a : Int) + 1) * ((n : Int) + 1) = (a : Int) * ((n : Int) + 1) + ((n : Int) + 1) := by rw [Int.add_mul, Int.one_mul]
  split
  · have := Int.mul_le_mul_of_nonneg_right (show (a : Int) + 1 ≤ (b : Int) by omega) (show (0 : Int) ≤ (n : Int) + 1 by omega)
    omega
  · have h2 := Int.mul_le_mul_of_nonneg_right (show (a : Int) + 1 ≤ (G : Int) by omega) (show (0 : Int) ≤ (n : Int) + 1 by omega)
    have h3 : (G : Int) * ((n : Int) + 1) = ((n * G : Nat) : Int) + (G : Int) := by rw [Int.mul_add, Int.mul_one, Int.natCast_mul, Int.mul_comm]
    omega
/-- The distance of the offset that is v away. -/
theorem ds_away {P at_ : Nat} (v : Int) (ha : at_ < P) (hv : v.natAbs < P) : dsN P at_ (modN ((at_ : Int) + v) P) = min v.natAbs (P - v.natAbs) := by
  have hP : 0 < P := by omega
  have key : ∀ m : Nat, m < P → (((at_ : Int) + v) = (m : Int) ∨ ((at_ : Int) + v) = (m : Int) - (P : Int) ∨ ((at_ : Int) + v) = (m : Int) + (P : Int)) → modN ((at_ : Int) + v) P = m := fun m hm h => by
    rcases h with h | h | h
    · rw [h, modN_id m P hm]
    · rw [h, show (m : Int) - (P : Int) = (m : Int) + (P : Int) * (-1) by omega, modN_plus, modN_id m P hm]
    · rw [h, show (m : Int) + (P : Int) = (m : Int) + (P : Int) * 1 by omega, modN_plus, modN_id m P hm]
  by_cases h1 : (at_ : Int) + v < 0
  · rw [key ((at_ : Int) + v + (P : Int)).toNat (by omega) (by omega)]
    unfold dsN; omega
  · by_cases h2 : (at_ : Int) + v < (P : Int)
    · rw [key ((at_ : Int) + v).toNat (by omega) (by omega)]
      unfold dsN; omega
    · rw [key ((at_ : Int) + v - (P : Int)).toNat (by omega) (by omega)]
      unfold dsN; omega
theorem hf_bd {G : Nat} (hG : 1 ≤ G) : 1 ≤ hfN G ∧ hfN G ≤ G := by unfold hfN; omega
/-- What is left of a displacement behind i steps. -/
def tz (u : Int) (i : Nat) : Int := if 0 ≤ u then max (u - (i : Int)) 0 else min (u + (i : Int)) 0
theorem step_track {c : ByteArray} {n G P at_ : Nat} {F : Nat → Int} {ga : Nat} (hG : 1 ≤ G) (hn : 3 ≤ n) (hP : n * G = P) (hPP : perL c (G : Int) = P) (ha : at_ < P) (hga : 1 ≤ ga)
    (hs : ∀ o, o < P → stF P F c (G : Int) o = (ga : Int) * shV n G (dsN P at_ o)) (u : Int) (hu : u.natAbs ≤ G) :
    stN P F c G P (modN ((at_ : Int) + u) P) = modN ((at_ : Int) + (u - sgI u)) P := by
  have hP1 : 1 ≤ P := by omega
  have h3 : 3 * G ≤ P := by rw [← hP]; exact Nat.mul_le_mul_right G hn
  obtain ⟨b1, b2⟩ := hf_bd hG
  obtain ⟨H, hH⟩ : ∃ H, hfN G = H := ⟨_, rfl⟩
  rw [hH] at b1 b2
  have sc : ∀ v : Int, v.natAbs ≤ G + H → scr P F c G P ((modN ((at_ : Int) + u) P : Int) + (v - u)) = (ga : Int) * shV n G v.natAbs := fun v hv => by
    rw [← scr_mod _ _ _ _ _ _ hP1, modN_plus_mod _ _ _ hP1, show (at_ : Int) + u + (v - u) = (at_ : Int) + v by omega]
    have h4 := hs (modN ((at_ : Int) + v) P) (modN_lt _ _ (by omega))
    unfold stF at h4
    rw [Int.toNat_natCast, hPP] at h4
    rw [h4, ds_away v ha (by omega)]
    congr 1
    by_cases h5 : v.natAbs < G
    · rw [show min v.natAbs (P - v.natAbs) = v.natAbs by omega]
    · unfold shV
      rw [if_neg h5, if_neg (by omega)]
  have e1 := sc (u + (H : Int)) (by omega)
  have e2 := sc (u - (H : Int)) (by omega)
  rw [show u + (H : Int) - u = (H : Int) by omega] at e1
  rw [show u - (H : Int) - u = -(H : Int) by omega] at e2
  unfold stN elD
  rw [hH, e1, show (modN ((at_ : Int) + u) P : Int) - (H : Int) = (modN ((at_ : Int) + u) P : Int) + -(H : Int) by omega, e2, ← Int.mul_sub, modN_plus_mod _ _ _ hP1]
  have hsg : sgI ((ga : Int) * (shV n G (u + (H : Int)).natAbs - shV n G (u - (H : Int)).natAbs)) = - sgI u := by
    rcases Int.lt_trichotomy u 0 with h | h | h
    · have := shV_lt (n := n) (G := G) (a := (u + (H : Int)).natAbs) (b := (u - (H : Int)).natAbs) hn (by omega) (by omega)
      have hp : 0 < (ga : Int) * (shV n G (u + (H : Int)).natAbs - shV n G (u - (H : Int)).natAbs) := Int.mul_pos (by omega) (by omega)
      unfold sgI
      rw [if_pos hp, if_neg (by omega), if_pos h]; rfl
    · subst h
      rw [show (0 + (H : Int)).natAbs = (0 - (H : Int)).natAbs by omega, Int.sub_self, Int.mul_zero]; rfl
    · have := shV_lt (n := n) (G := G) (a := (u - (H : Int)).natAbs) (b := (u + (H : Int)).natAbs) hn (by omega) (by omega)
      have hp : 0 < (ga : Int) * (shV n G (u - (H : Int)).natAbs - shV n G (u + (H : Int)).natAbs) := Int.mul_pos (by omega) (by omega)
      have hq : (ga : Int) * (shV n G (u + (H : Int)).natAbs - shV n G (u - (H : Int)).natAbs) = - ((ga : Int) * (shV n G (u - (H : Int)).natAbs - shV n G (u + (H : Int)).natAbs)) := by rw [← Int.mul_neg]; congr 1; omega
      unfold sgI
      rw [if_neg (by omega), if_pos (by omega), if_pos h]
  rw [hsg]
  congr 1
  omega
theorem tz_abs {u : Int} {G : Nat} (hu : u.natAbs ≤ G) (i : Nat) : (tz u i).natAbs ≤ G := by unfold tz; split <;> omega
theorem tz_step (u : Int) (i : Nat) : tz u (i + 1) = tz u i - sgI (tz u i) := by
  unfold tz sgI
  by_cases h : 0 ≤ u
  · rw [if_pos h, if_pos h]
    by_cases h1 : 0 < max (u - (i : Int)) 0
    · rw [if_pos h1]; omega
    · rw [if_neg h1, if_neg (by omega)]; omega
  · rw [if_neg h, if_neg h]
    by_cases h1 : 0 < min (u + (i : Int)) 0
    · omega
    · rw [if_neg h1]
      by_cases h2 : min (u + (i : Int)) 0 < 0
      · rw [if_pos h2]; omega
      · rw [if_neg h2]; omega
theorem path_track {c : ByteArray} {n G P at_ : Nat} {F : Nat → Int} {ga : Nat} (hG : 1 ≤ G) (hn : 3 ≤ n) (hP : n * G = P) (hPP : perL c (G : Int) = P) (ha : at_ < P) (hga : 1 ≤ ga)
    (hs : ∀ o, o < P → stF P F c (G : Int) o = (ga : Int) * shV n G (dsN P at_ o)) (u : Int) (hu : u.natAbs ≤ G) : ∀ i, pathN P F c G P (modN ((at_ : Int) + u) P) i = modN ((at_ : Int) + tz u i) P
  | 0 => by
    show modN ((at_ : Int) + u) P = _
    congr 2
    unfold tz; split <;> omega
  | i + 1 => by
    show stN P F c G P (pathN P F c G P (modN ((at_ : Int) + u) P) i) = _
    rw [path_track hG hn hP hPP ha hga hs u hu i, step_track hG hn hP hPP ha hga hs (tz u i) (tz_abs hu i), tz_step]
theorem tz_end {u : Int} {G : Nat} (hu : u.natAbs ≤ G) : tz u (G + 2) = 0 := by unfold tz; split <;> omega
theorem tz_less (u : Int) (i : Nat) : (tz u (i + 1)).natAbs ≤ (tz u i).natAbs := by unfold tz; split <;> omega
theorem tz_zero (u : Int) : tz u 0 = u := by unfold tz; split <;> omega
theorem away_ds {n G P at_ : Nat} (hn : 3 ≤ n) (hG : 1 ≤ G) (hP : n * G = P) (ha : at_ < P) (v : Int) (hv : v.natAbs ≤ G) : dsN P (modN ((at_ : Int) + v) P) at_ = v.natAbs := by
  have h3 : 3 * G ≤ P := by rw [← hP]; exact Nat.mul_le_mul_right G hn
  have h1 := ds_away v ha (by omega)
  have h2 : dsN P (modN ((at_ : Int) + v) P) at_ = dsN P at_ (modN ((at_ : Int) + v) P) := by unfold dsN; omega
  rw [h2, h1]; omega
theorem away_ne {n G P at_ : Nat} (hn : 3 ≤ n) (hG : 1 ≤ G) (hP : n * G = P) (ha : at_ < P) (u : Int) (hu : u.natAbs ≤ G) (h0 : u ≠ 0) : modN ((at_ : Int) + tz u 1) P ≠ modN ((at_ : Int) + u) P := by
  intro e
  have h1 := away_ds hn hG hP ha (tz u 1) (tz_abs hu 1)
  have h2 := away_ds hn hG hP ha u hu
  rw [e, h2] at h1
  unfold tz at h1
  split at h1 <;> omega
end Go.Proofs.Ytagdfohjhokgiaa
