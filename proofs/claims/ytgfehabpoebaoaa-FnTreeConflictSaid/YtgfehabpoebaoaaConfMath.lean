/- The parts of a longer path's code, against a shorter one's. -/
import Derived.Test.YtgfehabpoebaoaaTreeMath
namespace Go.Proofs.Ytgfehabpoebaoaa
open Go.RowKit
set_option linter.unusedVariables false
set_option maxRecDepth 100000
theorem tw_addP (i d : Nat) : tw (i + d) = tw d * tw i := by unfold tw; rw [Nat.pow_add, Nat.mul_comm]
theorem codeF_part (q : ByteArray) (i : Nat) : ∀ d t, t < tw d → ∃ c, ∀ k, k < tw i → codeF q (i + d) (t * tw i + k) = (codeF q i k + c) % 2
  | 0, t, ht => ⟨0, fun k hk => by
      obtain rfl : t = 0 := by have : tw 0 = 1 := rfl; omega
      have := codeF_lt q i k
      rw [Nat.zero_mul, Nat.zero_add, Nat.add_zero, Nat.add_zero]; omega⟩
  | d + 1, t, ht => by
    have e := tw_addP i d
    have e1 := tw_succ d
    by_cases h : t < tw d
    · obtain ⟨c, hc⟩ := codeF_part q i d t h
      refine ⟨c, fun k hk => ?_⟩
      have h1 : (t + 1) * tw i ≤ tw d * tw i := Nat.mul_le_mul_right _ h
      rw [Nat.succ_mul] at h1
      rw [← hc k hk]
      show codeF q (i + d + 1) _ = _
      simp only [codeF]
      rw [if_pos (by omega)]
    · obtain ⟨c, hc⟩ := codeF_part q i d (t - tw d) (by omega)
      refine ⟨c + (zb q (i + d) - 48), fun k hk => ?_⟩
      have h1 : t * tw i = tw d * tw i + (t - tw d) * tw i := by rw [← Nat.add_mul]; congr 1; omega
      have h2 := hc k hk
      show codeF q (i + d + 1) _ = _
      simp only [codeF]
      rw [if_neg (by omega), show t * tw i + k - tw (i + d) = (t - tw d) * tw i + k by omega, h2]
      omega
theorem agr_c (x y c : Nat) (hx : x < 2) (hy : y < 2) : agr (48 + x) (48 + (y + c) % 2) = if c % 2 = 0 then agr (48 + x) (48 + y) else - agr (48 + x) (48 + y) := by
  unfold agr
  by_cases h : c % 2 = 0
  · rw [if_pos h]
    by_cases e : x = y
    · rw [if_pos (by omega), if_pos (by omega)]
    · rw [if_neg (by omega), if_neg (by omega)]
  · rw [if_neg h]
    by_cases e : x = y
    · rw [if_neg (by omega), if_pos (by omega)]
    · rw [if_pos (by omega), if_neg (by omega)]; rfl
theorem sumI_negC (f g : Nat → Int) : ∀ n, (∀ v, v < n → f v = - g v) → sumI f n = - sumI g n
  | 0, _ => rfl
  | n + 1, h => by
    show sumI f n + f n = - (sumI g n + g n)
    rw [sumI_negC f g n (fun v hv => h v (by omega)), h n (by omega)]; omega
theorem sumI_eqC (f g : Nat → Int) : ∀ n, (∀ v, v < n → f v = g v) → sumI f n = sumI g n
  | 0, _ => rfl
  | n + 1, h => by
    show sumI f n + f n = sumI g n + g n
    rw [sumI_eqC f g n (fun v hv => h v (by omega)), h n (by omega)]
theorem vlN_inj {p q : ByteArray} (hp : okB p p.size = true) (hq : okB q q.size = true) (hs : p.size = q.size) (h : vlN p p.size = vlN q q.size) : p = q := ba_ext hs fun i hi => by
  have h1 := vlN_bit hp p.size (Nat.le_refl _) i hi
  have h2 := vlN_bit hq q.size (Nat.le_refl _) i (by omega)
  rw [h, h2] at h1
  have := okB_zb p hp i hi
  have := okB_zb q hq i (by omega)
  omega
theorem part_cross {x y : ByteArray} (hx : pathB x = true) (hy : pathB y = true) (hle : x.size ≤ y.size) (t : Nat) (ht : t < tw (y.size - x.size)) :
    t * tw x.size + tw x.size ≤ tw y.size ∧ ((treeS y y.size).extract (t * tw x.size) (t * tw x.size + tw x.size)).size = tw x.size ∧
    okB ((treeS y y.size).extract (t * tw x.size) (t * tw x.size + tw x.size)) ((treeS y y.size).extract (t * tw x.size) (t * tw x.size + tw x.size)).size = true ∧
    ∃ c : Int, (x = y.extract 0 x.size → c = (tw x.size : Nat) ∨ c = -((tw x.size : Nat) : Int)) ∧ (¬ x = y.extract 0 x.size → c = 0) ∧
      crossN (treeS x x.size) ((treeS y y.size).extract (t * tw x.size) (t * tw x.size + tw x.size)) 0 = c := by
  obtain ⟨i, hi⟩ : ∃ i, x.size = i := ⟨_, rfl⟩
  obtain ⟨d, hd⟩ : ∃ d, y.size = i + d := ⟨y.size - i, by omega⟩
  rw [hi] at hle ⊢
  rw [hi, show y.size - i = d by omega] at ht
  have hx6 := ((pathB_iff x).1 hx).2
  have hxo := ((pathB_iff x).1 hx).1
  have hyo := ((pathB_iff y).1 hy).1
  obtain ⟨hq1, hq2, -⟩ := tree_half hy hle
  obtain ⟨w1, w2⟩ := tree_wal hx
  obtain ⟨w3, w4⟩ := tree_wal hq1
  have hqo := ((pathB_iff _).1 hq1).1
  have hinj := vlN_inj hxo hqo (by omega)
  have hzq : ∀ j, j < i → zb (y.extract 0 i) j = zb y j := fun j hj => by rw [zb_extract y 0 i j hle (by omega), Nat.zero_add]
  have hcq := fun k => codeF_same (p := y.extract 0 i) (q := y) i hzq k
  obtain ⟨q, hq⟩ : ∃ q, y.extract 0 i = q := ⟨_, rfl⟩
  rw [hq] at hq1 hq2 w3 w4 hinj hcq ⊢
  rw [hq2] at w3 w4
  rw [hi] at w1 w2
  rw [hi, hq2] at hinj
  have hcr := cross_wal (o := i) (by omega) w2 w4
  rw [← w1, ← w3] at hcr
  obtain ⟨c, hc⟩ := codeF_part y i d t ht
  have hU := tw_pos i
  have hT := tw_addP i d
  have h1 : (t + 1) * tw i ≤ tw d * tw i := Nat.mul_le_mul_right _ ht
  rw [Nat.succ_mul] at h1
  obtain ⟨X, hX⟩ : ∃ X, t * tw i = X := ⟨_, rfl⟩
  rw [hX] at h1 hc ⊢
  rw [hd]
  have hsz : (treeS y (i + d)).size = tw (i + d) := treeS_size _ _
  have hps : ((treeS y (i + d)).extract X (X + tw i)).size = tw i := by rw [size_extract _ _ _ (by omega)]; omega
  have hpz : ∀ v, v < tw i → zb ((treeS y (i + d)).extract X (X + tw i)) v = 48 + (codeF q i v + c) % 2 := fun v hv => by
    rw [zb_extract _ _ _ _ (by omega) (by omega), zb_treeS _ _ _ (by omega), hc v hv, hcq v]
  obtain ⟨P, hP⟩ : ∃ P, (treeS y (i + d)).extract X (X + tw i) = P := ⟨_, rfl⟩
  rw [hP] at hps hpz ⊢
  refine ⟨by omega, hps, okB_of_zb _ fun v hv => by rw [hpz v (by omega)]; omega, ?_⟩
  have hsh : ∀ (B : ByteArray), B.size = tw i → ∀ v, v < tw i → shB B 0 v = zb B v := fun B hB v hv => by
    unfold shB; rw [hB, Nat.zero_add, Nat.mod_eq_of_lt hv]
  have hterm : ∀ v, v < tw i → agr (zb (treeS x i) v) (shB P 0 v) = if c % 2 = 0 then agr (zb (treeS x i) v) (shB (treeS q i) 0 v) else - agr (zb (treeS x i) v) (shB (treeS q i) 0 v) := fun v hv => by
    rw [hsh P hps v hv, hsh (treeS q i) (treeS_size _ _) v hv, hpz v hv, zb_treeS x i v hv, zb_treeS q i v hv]
    exact agr_c _ _ _ (codeF_lt _ _ _) (codeF_lt _ _ _)
  have hcx : crossN (treeS x i) P 0 = if c % 2 = 0 then crossN (treeS x i) (treeS q i) 0 else - crossN (treeS x i) (treeS q i) 0 := by
    unfold crossN
    rw [treeS_size]
    by_cases hcc : c % 2 = 0
    · rw [if_pos hcc]; exact sumI_eqC _ _ _ fun v hv => by rw [hterm v hv, if_pos hcc]
    · rw [if_neg hcc]; exact sumI_negC _ _ _ fun v hv => by rw [hterm v hv, if_neg hcc]
  refine ⟨crossN (treeS x i) P 0, fun e => ?_, fun e => ?_, rfl⟩
  · have hv : vlN x i = vlN q i := by rw [e]
    rw [hcx, hcr, if_pos hv]
    split
    · exact .inl rfl
    · exact .inr rfl
  · rw [hcx, hcr, if_neg (fun hv => e (hinj hv))]
    split <;> rfl
end Go.Proofs.Ytgfehabpoebaoaa
