/- The scores of a pilot with a maximal code of a small size. -/
import Derived.Test.YtagdfohjhokgiaaPilLaw
import Derived.Test.YtagdfohjhokgiaaMaxSmall
namespace Go.Proofs.Ytagdfohjhokgiaa
open Go.RowKit
set_option linter.unusedVariables false
/-- What a code agrees with its shift by k more than it differs. -/
def auF (c : ByteArray) (n k : Nat) : Int := sumI (fun x => chF c x * chF c ((x + k) % n)) n
theorem chF_run {s t n i : Nat} (hi : i < n) : chF (runS s t 1 n) i = 1 - 2 * ((stepsN s t i 1 % 2 : Nat) : Int) := by
  have h : zb (runS s t 1 n) i = 48 + stepsN s t i 1 % 2 := zb_strF hi (by omega)
  exact chF_of h
theorem prod_bits (a b : Nat) : (1 - 2 * ((a % 2 : Nat) : Int)) * (1 - 2 * ((b % 2 : Nat) : Int)) = 2 * (if (a + b) % 2 = 0 then 1 else 0 : Nat) - 1 := by
  have h1 : a % 2 = 0 ∨ a % 2 = 1 := by omega
  have h2 : b % 2 = 0 ∨ b % 2 = 1 := by omega
  rcases h1 with h1 | h1 <;> rcases h2 with h2 | h2 <;> rw [h1, h2]
  · rw [if_pos (by omega)]; rfl
  · rw [if_neg (by omega)]; rfl
  · rw [if_neg (by omega)]; rfl
  · rw [if_pos (by omega)]; rfl
theorem au_eqC {s t n k : Nat} (hn : 1 ≤ n) : ∀ m, m ≤ n → sumI (fun x => chF (runS s t 1 n) x * chF (runS s t 1 n) ((x + k) % n)) m = 2 * (eqC s t n k m : Int) - (m : Int)
  | 0, _ => by simp [sumI, eqC]
  | m + 1, h => by
    have ih := au_eqC (s := s) (t := t) (k := k) hn m (by omega)
    show sumI (fun x => chF (runS s t 1 n) x * chF (runS s t 1 n) ((x + k) % n)) m + chF (runS s t 1 n) m * chF (runS s t 1 n) ((m + k) % n) = _
    rw [ih, chF_run (by omega), chF_run (Nat.mod_lt _ (by omega)), prod_bits, Nat.add_comm m k]
    show _ = 2 * ((eqC s t n k m + (if (stepsN s t m 1 + stepsN s t ((k + m) % n) 1) % 2 = 0 then 1 else 0) : Nat) : Int) - ((m + 1 : Nat) : Int)
    split <;> omega
/-- A code that agrees with no shift of itself but by whole periods. -/
def TwoV (c : ByteArray) (n : Nat) : Prop := c.size = n ∧ 3 ≤ n ∧ n ≤ 31 ∧ (∀ k, k % n = 0 → auF c n k = (n : Int)) ∧ (∀ k, k % n ≠ 0 → auF c n k = -1)
theorem twoV_of {s t : Nat} (h2 : 2 ≤ s) (h5 : s ≤ 5) (hg : goodB s t = true) : TwoV (runS s t 1 (tw s - 1)) (tw s - 1) := by
  have hn : 3 ≤ tw s - 1 ∧ tw s - 1 ≤ 31 := by
    have : s = 2 ∨ s = 3 ∨ s = 4 ∨ s = 5 := by omega
    rcases this with rfl | rfl | rfl | rfl <;> decide
  obtain ⟨n, hN⟩ : ∃ n, tw s - 1 = n := ⟨_, rfl⟩
  have hgg : ∀ k, 1 ≤ k → k < n → eqC s t n k n * 2 + 1 = n := fun k h1 h3 => by
    have := goodB_at hg h1 (by rw [hN]; exact h3)
    rwa [hN] at this
  rw [hN] at hn ⊢
  have ok := runS_okM s t 1 n
  rw [runS_size] at ok
  have hmod : ∀ k, auF (runS s t 1 n) n k = auF (runS s t 1 n) n (k % n) := fun k => by
    unfold auF
    exact sumI_congr _ fun x _ => by rw [Nat.add_mod_mod]
  refine ⟨runS_size _ _ _ _, hn.1, hn.2, fun k hk => ?_, fun k hk => ?_⟩
  · rw [hmod, hk]
    unfold auF
    have : ∀ m, m ≤ n → sumI (fun x => chF (runS s t 1 n) x * chF (runS s t 1 n) ((x + 0) % n)) m = (m : Int) := by
      intro m
      induction m with
      | zero => intro _; rfl
      | succ m ih =>
        intro hm
        show sumI (fun x => chF (runS s t 1 n) x * chF (runS s t 1 n) ((x + 0) % n)) m + chF (runS s t 1 n) m * chF (runS s t 1 n) ((m + 0) % n) = _
        rw [ih (by omega), Nat.add_zero, Nat.mod_eq_of_lt (by omega)]
        have hb : okB (runS s t 1 n) (runS s t 1 n).size = true := by rw [runS_size]; exact ok
        rcases chF_bd hb (i := m) (by rw [runS_size]; omega) with e | e <;> rw [e] <;> omega
    exact this n (Nat.le_refl _)
  · rw [hmod]
    have hl := Nat.mod_lt k (show n > 0 by omega)
    have he := hgg (k % n) (by omega) hl
    unfold auF
    rw [au_eqC (by omega) n (Nat.le_refl _)]
    omega
theorem sumI_blocks (f : Nat → Int) (G : Nat) : ∀ n, sumI f (n * G) = sumI (fun x => sumI (fun r => f (x * G + r)) G) n
  | 0 => by rw [Nat.zero_mul]; rfl
  | n + 1 => by
    rw [Nat.succ_mul, sumI_splitP, sumI_blocks f G n]
    rfl
theorem sumI_cst (a : Int) : ∀ n : Nat, sumI (fun _ => a) n = (n : Int) * a
  | 0 => by simp [sumI]
  | n + 1 => by
    show sumI (fun _ => a) n + a = _
    rw [sumI_cst a n, Int.natCast_succ, Int.add_mul, Int.one_mul]
theorem sumI_two (a b : Int) (G z : Nat) (hz : z ≤ G) : sumI (fun r => if r + z < G then a else b) G = ((G - z : Nat) : Int) * a + (z : Int) * b := by
  have e : sumI (fun r => if r + z < G then a else b) G = sumI (fun r => if r + z < G then a else b) ((G - z) + z) := by rw [Nat.sub_add_cancel hz]
  rw [e, sumI_splitP]
  congr 1
  · rw [← sumI_cst]; exact sumI_congr _ fun r hr => by rw [if_pos (by omega)]
  · rw [← sumI_cst]; exact sumI_congr _ fun r hr => by rw [if_neg (by omega)]
theorem chip_at (n G a b : Nat) (hG : 0 < G) (hb : b < G) : ((a * G + b) % (n * G)) / G = a % n := by
  rw [Nat.mul_comm n G, Nat.mod_mul_right_div_self, Nat.mul_comm a G, Nat.mul_add_div hG, Nat.div_eq_of_lt hb, Nat.add_zero]
/-- The sum of a code's samples times those that are e further on. -/
def coE (c : ByteArray) (n G e : Nat) : Int := sumI (fun j => chF c (j / G) * chF c (((j + e) % (n * G)) / G)) (n * G)
theorem coE_is (c : ByteArray) (n G y z : Nat) (hG : 0 < G) (hz : z < G) : coE c n G (y * G + z) = ((G - z : Nat) : Int) * auF c n y + (z : Int) * auF c n (y + 1) := by
  unfold coE
  rw [sumI_blocks]
  have e : ∀ x, x < n → sumI (fun r => chF c ((x * G + r) / G) * chF c (((x * G + r + (y * G + z)) % (n * G)) / G)) G = ((G - z : Nat) : Int) * (chF c x * chF c ((x + y) % n)) + (z : Int) * (chF c x * chF c ((x + (y + 1)) % n)) := by
    intro x hx
    rw [← sumI_two _ _ G z (by omega)]
    refine sumI_congr _ fun r hr => ?_
    rw [show (x * G + r) / G = x by rw [Nat.mul_comm x G, Nat.mul_add_div hG, Nat.div_eq_of_lt hr, Nat.add_zero]]
    by_cases h : r + z < G
    · rw [if_pos h, show x * G + r + (y * G + z) = (x + y) * G + (r + z) by rw [Nat.add_mul]; omega, chip_at n G _ _ hG h]
    · rw [if_neg h, show x * G + r + (y * G + z) = (x + (y + 1)) * G + (r + z - G) by rw [Nat.add_mul, Nat.add_mul, Nat.one_mul]; omega, chip_at n G _ _ hG (by omega)]
  rw [sumI_congr n e, sumI_addP, sumI_mulP, sumI_mulP]
  rfl
/-- The score of a maximal code at a distance d, for a gain of 1. -/
def shV (n G d : Nat) : Int := if d < G then ((n * G : Nat) : Int) - (d : Int) * ((n : Int) + 1) else -(G : Int)
theorem coE_shape {c : ByteArray} {n G e : Nat} (h : TwoV c n) (hG : 0 < G) (he : e < n * G) : coE c n G e = shV n G (min e (n * G - e)) := by
  obtain ⟨-, hn3, -, h0, h1⟩ := h
  obtain ⟨y, z, rfl, hz⟩ : ∃ y z, e = y * G + z ∧ z < G := ⟨e / G, e % G, by rw [Nat.mul_comm]; exact (Nat.div_add_mod e G).symm, Nat.mod_lt _ hG⟩
  rw [coE_is c n G y z hG hz]
  have hy : y < n := by
    rcases Nat.lt_or_ge y n with a | a
    · exact a
    · have := Nat.mul_le_mul_right G a; omega
  have hyz : (n - y) * G = n * G - y * G := Nat.sub_mul _ _ _
  have cast : ((n * G : Nat) : Int) = (n : Int) * (G : Int) := Int.natCast_mul _ _
  have hGz : ((G - z : Nat) : Int) = (G : Int) - (z : Int) := by omega
  by_cases y0 : y = 0
  · subst y0
    rw [h0 0 (Nat.zero_mod _), h1 (0 + 1) (by rw [Nat.mod_eq_of_lt (by omega)]; omega), hGz]
    have hm : min (0 * G + z) (n * G - (0 * G + z)) = z := by
      have := Nat.mul_le_mul_right G hn3
      omega
    rw [hm]
    unfold shV
    rw [if_pos hz, cast, Int.sub_mul, Int.mul_add, Int.mul_one, Int.mul_comm (G : Int), Int.mul_neg, Int.mul_one]
    have : (z : Int) * (n : Int) = (n : Int) * (z : Int) := Int.mul_comm _ _
    omega
  · rw [h1 y (by rw [Nat.mod_eq_of_lt hy]; exact y0), hGz]
    by_cases yn : y + 1 = n
    · rw [yn, h0 n (Nat.mod_self n)]
      have hyG : n * G = y * G + G := by rw [← yn, Nat.add_mul, Nat.one_mul]
      have hy2 : 2 * G ≤ y * G := Nat.mul_le_mul_right G (by omega)
      by_cases z0 : z = 0
      · subst z0
        have hm : min (y * G + 0) (n * G - (y * G + 0)) = G := by omega
        rw [hm]
        unfold shV
        rw [if_neg (Nat.lt_irrefl _)]
        omega
      · have hm : min (y * G + z) (n * G - (y * G + z)) = G - z := by omega
        rw [hm]
        unfold shV
        rw [if_pos (by omega), cast, hGz]
        simp only [Int.sub_mul, Int.mul_add, Int.mul_neg, Int.mul_one]
        have := Int.mul_comm (n : Int) (G : Int)
        omega
    · rw [h1 (y + 1) (by rw [Nat.mod_eq_of_lt (by omega)]; omega)]
      have hyG : G ≤ y * G := by have := Nat.mul_le_mul_right G (show 1 ≤ y by omega); omega
      have hyN : y * G + 2 * G ≤ n * G := by
        have := Nat.mul_le_mul_right G (show y + 2 ≤ n by omega)
        rw [Nat.add_mul] at this; omega
      have hm : ¬ min (y * G + z) (n * G - (y * G + z)) < G := by omega
      unfold shV
      rw [if_neg hm]
      omega
/-- The score of the pilot with the offset at_, at the offset o. -/
theorem scr_coE (c : ByteArray) (n G P at_ o : Nat) (ga : Int) (hP : n * G = P) (ha : at_ < P) (ho : o < P) :
    scr P (scF ga (plF c G P (at_ : Int))) c G P (o : Int) = ga * coE c n G (modN ((at_ : Int) - (o : Int)) P) := by
  have hP1 : 1 ≤ P := by omega
  rw [scr_scale]
  congr 1
  unfold scr scT coE
  rw [Nat.min_self, hP, ← sumI_rotP (fun j => plF c G P (at_ : Int) j * plF c G P (o : Int) j) at_ P ha]
  refine sumI_congr _ fun j hj => ?_
  show plF c G P (at_ : Int) ((at_ + j) % P) * plF c G P (o : Int) ((at_ + j) % P) = _
  rw [pl_modi, pl_modi]
  congr 1
  · unfold plF
    rw [show ((at_ + j : Nat) : Int) - (at_ : Int) = ((j : Nat) : Int) by omega, modN_id j P hj]
  · unfold plF
    have e : modN (((at_ + j : Nat) : Int) - (o : Int)) P = (j + modN ((at_ : Int) - (o : Int)) P) % P := by
      have h1 := modN_eq ((at_ : Int) - (o : Int)) P (by omega)
      have h2 : (((j + modN ((at_ : Int) - (o : Int)) P) % P : Nat) : Int) = (((at_ + j : Nat) : Int) - (o : Int)) % (P : Int) := by
        rw [Int.natCast_emod, Int.natCast_add, h1, Int.add_emod_emod]
        congr 1; omega
      have h3 := modN_eq (((at_ + j : Nat) : Int) - (o : Int)) P (by omega)
      omega
    rw [e]
theorem scr_shape {c : ByteArray} {n G P at_ o : Nat} (ga : Int) (h : TwoV c n) (hG : 0 < G) (hP : n * G = P) (ha : at_ < P) (ho : o < P) :
    scr P (scF ga (plF c G P (at_ : Int))) c G P (o : Int) = ga * shV n G (dsN P at_ o) := by
  rw [scr_coE c n G P at_ o ga hP ha ho, coE_shape h hG (by rw [hP]; exact modN_lt _ _ (by omega)), hP]
  congr 2
  have e1 := ds_mod (P := P) ho ha
  have e2 : dsN P at_ o = dsN P o at_ := by unfold dsN; omega
  rw [e2, e1]
theorem shV_top {n G d : Nat} (hG : 0 < G) (h0 : 1 ≤ d) (hn : 3 ≤ n) : shV n G d < shV n G 0 := by
  unfold shV
  rw [if_pos hG]
  have hp : 0 < n * G := Nat.mul_pos (by omega) hG
  split
  · have : (n : Int) + 1 ≤ (d : Int) * ((n : Int) + 1) := by
      have := Int.mul_le_mul_of_nonneg_right (show (1 : Int) ≤ (d : Int) by omega) (show (0 : Int) ≤ (n : Int) + 1 by omega)
      omega
    omega
  · omega
theorem amx_uniq {f : Nat → Int} {m n : Nat} (hm : m < n) (h : ∀ i, i < n → i ≠ m → f i < f m) : amx f n = m := by
  have h1 := amx_max f n m hm
  have h2 := amx_lt f n (by omega)
  rcases Nat.decEq (amx f n) m with e | e
  · have := h _ h2 e; omega
  · exact e
end Go.Proofs.Ytagdfohjhokgiaa
