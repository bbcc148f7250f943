/- What the law FnTransform asks, with bounds. -/
import Derived.Test.YtkkakfkebjdkeaaTransMath
namespace Go.Proofs.Ytkkakfkebjdkeaa
set_option linter.unusedVariables false
theorem sums_bd {f : Nat → Int} {M : Int} {n : Nat} (hf : ∀ i, i < n → 0 ≤ f i ∧ f i ≤ M) : ∀ k : Nat, k ≤ n → 0 ≤ sumI f k ∧ sumI f k ≤ M * k
  | 0, _ => by simp [sumI]
  | k + 1, h => by
    obtain ⟨h1, h2⟩ := sums_bd hf k (by omega)
    obtain ⟨h3, h4⟩ := hf k (by omega)
    simp only [sumI]
    rw [show ((k + 1 : Nat) : Int) = (k : Int) + 1 by omega, Int.mul_add, Int.mul_one]
    omega
theorem sq_bd {x B : Int} (h1 : -B ≤ x) (h2 : x ≤ B) : 0 ≤ x * x ∧ x * x ≤ B * B := by
  by_cases h : 0 ≤ x
  · exact ⟨Int.mul_nonneg h h, Int.mul_le_mul h2 h2 h (by omega)⟩
  · rw [← Int.neg_mul_neg]
    exact ⟨Int.mul_nonneg (by omega) (by omega), Int.mul_le_mul (by omega) (by omega) (by omega) (by omega)⟩
theorem allT_of {n : Nat} {f : Nat → Int} (h : ∀ i, i < n → -1000000 ≤ f i ∧ f i ≤ 1000000) : allT n f = true := by
  unfold allT
  rw [List.all_eq_true]
  intro j hj
  have := h j (List.mem_range.1 hj)
  unfold inT
  simp only [Bool.and_eq_true, decide_eq_true_eq]
  exact this
/-- All that the walk wants of numbers that are transformed. -/
theorem trans_facts {n : Nat} {z : Nat → Int} (h : (isT n && allT n z) = true) : ∃ (X P Q : Nat → Int) (A : Int), 1 ≤ n ∧ n ≤ 64 ∧ trF n z = X ∧ trN n z = n ∧ (∀ i, i < n → -1000000 ≤ z i ∧ z i ≤ 1000000) ∧ (∀ i, i < n → -64000000 ≤ X i ∧ X i ≤ 64000000) ∧
    (∀ i, i < n → z i * z i = P i ∧ 0 ≤ P i ∧ P i ≤ 1000000000000) ∧ (∀ i, i < n → X i * X i = Q i ∧ 0 ≤ Q i ∧ Q i ≤ 4096000000000000) ∧
    (∀ k, k ≤ n → 0 ≤ sumI P k ∧ sumI P k ≤ 64000000000000) ∧ (∀ k, k ≤ n → 0 ≤ sumI Q k ∧ sumI Q k ≤ 262144000000000000) ∧ sumI P n = A ∧ (n : Int) * A = sumI Q n ∧
    ((∀ i, i < n → -1000000 ≤ X i ∧ X i ≤ 1000000) → trN n X = n ∧ ∀ i, i < n → (n : Int) * z i = trF n X i ∧ -64000000 ≤ trF n X i ∧ trF n X i ≤ 64000000) := by
  rw [Bool.and_eq_true] at h
  obtain ⟨ht, ha⟩ := h
  obtain ⟨o, ho, rfl⟩ := isT_tw ht
  have h64 := tw_6 o ho
  have h1 := tw_pos o
  have hz := fun i (hi : i < tw o) => allT_at ha hi
  have hX : ∀ i, i < tw o → -64000000 ≤ trF (tw o) z i ∧ trF (tw o) z i ≤ 64000000 := fun i hi => by
    have := part_bd ha i (tw o) (Nat.le_refl _)
    unfold trF
    have h64' : ((tw o : Nat) : Int) ≤ 64 := by omega
    omega
  have hP : ∀ i, i < tw o → 0 ≤ z i * z i ∧ z i * z i ≤ 1000000000000 := fun i hi => sq_bd (B := 1000000) (hz i hi).1 (hz i hi).2
  have hQ : ∀ i, i < tw o → 0 ≤ trF (tw o) z i * trF (tw o) z i ∧ trF (tw o) z i * trF (tw o) z i ≤ 4096000000000000 := fun i hi => sq_bd (B := 64000000) (hX i hi).1 (hX i hi).2
  have hn : trN (tw o) z = tw o := by unfold trN; rw [ht, ha]; rfl
  refine ⟨trF (tw o) z, fun i => z i * z i, fun i => trF (tw o) z i * trF (tw o) z i, _, h1, h64, rfl, hn, hz, hX, fun i hi => ⟨rfl, hP i hi⟩, fun i hi => ⟨rfl, hQ i hi⟩, fun k hk => ?_, fun k hk => ?_, rfl, (trF_square ho z).symm, fun hb => ⟨?_, fun i hi => ?_⟩⟩
  · have := sums_bd (f := fun i => z i * z i) hP k hk
    omega
  · have := sums_bd (f := fun i => trF (tw o) z i * trF (tw o) z i) hQ k hk
    omega
  · unfold trN; rw [ht, allT_of hb]; rfl
  · have e := trF_twice ho hi z
    have b := part_bd (allT_of hb) i (tw o) (Nat.le_refl _)
    refine ⟨e.symm, ?_⟩
    unfold trF at b ⊢
    omega
end Go.Proofs.Ytkkakfkebjdkeaa
