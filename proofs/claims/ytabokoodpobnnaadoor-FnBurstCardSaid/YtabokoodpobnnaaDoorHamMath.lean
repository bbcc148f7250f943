/- Plain mathematics of corrected blocks: they are protected, and differ in as many bits as were corrected. -/
import Derived.Test.YtabokoodpobnnaaDoorFrm12
import Derived.Test.YtabokoodpobnnaaDoorFrm19
namespace Go.Proofs.YtabokoodpobnnaaDoor
open Go.RowKit
set_option linter.unusedVariables false
set_option maxRecDepth 100000
/-- In how many of the first places two functions differ. -/
def difN (f g : Nat → Nat) : Nat → Nat
  | 0 => 0
  | k + 1 => difN f g k + if f k = g k then 0 else 1
theorem difN_congr {f g f' g' : Nat → Nat} : ∀ k, (∀ i, i < k → f i = f' i ∧ g i = g' i) → difN f g k = difN f' g' k
  | 0, _ => rfl
  | k + 1, h => by simp only [difN]; rw [difN_congr k (fun i hi => h i (by omega)), (h k (by omega)).1, (h k (by omega)).2]
theorem difN_add (f g : Nat → Nat) (a : Nat) : ∀ k, difN f g (a + k) = difN f g a + difN (fun i => f (a + i)) (fun i => g (a + i)) k
  | 0 => rfl
  | k + 1 => by rw [← Nat.add_assoc]; simp only [difN]; rw [difN_add f g a k]; omega
theorem difN_le (f g : Nat → Nat) : ∀ k, difN f g k ≤ k
  | 0 => Nat.le_refl _
  | k + 1 => by have := difN_le f g k; simp only [difN]; split <;> omega
def bitF (b k : Nat) : Nat := 48 + b / 2 ^ k % 2
theorem ham_word_all : (List.range 128).all (fun b => (List.range 7).all (fun j => Nat.beq (blkV (fun i => corF (bitF b) (plF4 i)) j) (corF (bitF b) j))) = true := by kernel_rfl
theorem ham_count_all : (List.range 128).all (fun b => Nat.beq (difN (corF (bitF b)) (bitF b) 7) (if synF (bitF b) 7 = 0 then 0 else 1)) = true := by kernel_rfl
theorem ham_word (b : Nat) (hb : b < 128) : (List.range 7).all (fun j => Nat.beq (blkV (fun i => corF (bitF b) (plF4 i)) j) (corF (bitF b) j)) = true := List.all_eq_true.1 ham_word_all b (List.mem_range.2 hb)
theorem ham_count (b : Nat) (hb : b < 128) : Nat.beq (difN (corF (bitF b)) (bitF b) 7) (if synF (bitF b) 7 = 0 then 0 else 1) = true := List.all_eq_true.1 ham_count_all b (List.mem_range.2 hb)
theorem as_bits' : ∀ (n : Nat) (f : Nat → Nat), (∀ j, j < n → f j = 48 ∨ f j = 49) → ∃ b, b < 2 ^ n ∧ ∀ j, j < n → f j = bitF b j
  | 0, f, _ => ⟨0, by simp, fun j hj => by omega⟩
  | n + 1, f, h => by
    obtain ⟨b, hb, e⟩ := as_bits' n (fun j => f (j + 1)) (fun j hj => h (j + 1) (by omega))
    obtain ⟨a, ha, h0⟩ : ∃ a, a < 2 ∧ f 0 = 48 + a := by rcases h 0 (by omega) with h | h; exact ⟨0, by omega, h⟩; exact ⟨1, by omega, h⟩
    refine ⟨a + 2 * b, by rw [Nat.pow_succ]; omega, fun j hj => ?_⟩
    cases j with
    | zero => unfold bitF; rw [h0, Nat.pow_zero, Nat.div_one]; omega
    | succ j =>
      have := e j (by omega)
      rw [show f (j + 1) = bitF b j from this]
      unfold bitF
      rw [Nat.pow_succ, Nat.mul_comm (2 ^ j) 2, ← Nat.div_div_eq_div_mul, show (a + 2 * b) / 2 = b by omega]
theorem as_bits {f : Nat → Nat} (h : ∀ j, j < 7 → f j = 48 ∨ f j = 49) : ∃ b, b < 128 ∧ ∀ j, j < 7 → f j = bitF b j := as_bits' 7 f h
theorem corF_congr {f g : Nat → Nat} (h : ∀ j, j < 7 → f j = g j) {j : Nat} (hj : j < 7) : corF f j = corF g j := by
  unfold corF
  rw [synF_congr 7 h, h j hj]
theorem plF4_lt (i : Nat) : plF4 i < 7 := by unfold plF4; split; omega; split; omega; split <;> omega
theorem blkV_congr {p q : Nat → Nat} (h : ∀ k, k < 4 → p k = q k) {j : Nat} (hj : j < 7) : blkV p j = blkV q j := by
  unfold blkV
  rw [h 0 (by omega), h 1 (by omega), h 2 (by omega), h 3 (by omega)]
  by_cases e0 : j = 0
  · rw [if_pos e0, if_pos e0]
  · by_cases e1 : j = 1
    · rw [if_neg e0, if_neg e0, if_pos e1, if_pos e1]
    · by_cases e2 : j = 2
      · rw [if_neg e0, if_neg e0, if_neg e1, if_neg e1, if_pos e2, if_pos e2]
      · by_cases e3 : j = 3
        · rw [if_neg e0, if_neg e0, if_neg e1, if_neg e1, if_neg e2, if_neg e2, if_pos e3, if_pos e3]
        · rw [if_neg e0, if_neg e0, if_neg e1, if_neg e1, if_neg e2, if_neg e2, if_neg e3, if_neg e3, h (j - 3) (by omega)]
theorem cor_word {f : Nat → Nat} (h : ∀ j, j < 7 → f j = 48 ∨ f j = 49) {j : Nat} (hj : j < 7) : blkV (fun i => corF f (plF4 i)) j = corF f j := by
  obtain ⟨b, hb, e⟩ := as_bits h
  have h1 := List.all_eq_true.1 (ham_word b hb) j (List.mem_range.2 hj)
  have h2 := Nat.eq_of_beq_eq_true h1
  rw [corF_congr e hj, ← h2]
  exact blkV_congr (fun k _ => corF_congr e (plF4_lt k)) hj
theorem cor_count {f : Nat → Nat} (h : ∀ j, j < 7 → f j = 48 ∨ f j = 49) : difN (corF f) f 7 = if synF f 7 = 0 then 0 else 1 := by
  obtain ⟨b, hb, e⟩ := as_bits h
  rw [synF_congr 7 e, ← Nat.eq_of_beq_eq_true (ham_count b hb)]
  exact difN_congr 7 fun i hi => ⟨corF_congr e hi, e i hi⟩
theorem cor_bit {f : Nat → Nat} (h : ∀ j, j < 7 → f j = 48 ∨ f j = 49) {j : Nat} (hj : j < 7) : corF f j = 48 ∨ corF f j = 49 := by
  have := h j hj
  unfold corF
  split <;> omega
/-- Decoded bits, protected again. -/
theorem again {z : ByteArray} (hb : bitsB z = true) (h7 : z.size % 7 = 0) : ∃ Y B : ByteArray, hdAns z = (Y, ((cntF z (z.size / 7) : Nat) : Int), true) ∧ Y.size ≤ 1000 ∧ heAns Y = (B, true) ∧ B.size = z.size ∧ difN (zb B) (zb z) z.size = cntF z (z.size / 7) := by
  have hb' := hb
  unfold bitsB at hb'
  simp only [Bool.and_eq_true, decide_eq_true_eq] at hb'
  obtain ⟨hok, h6⟩ := hb'
  obtain ⟨m, hm⟩ : ∃ m, z.size / 7 = m := ⟨_, rfl⟩
  have hz : z.size = 7 * m := by omega
  have hbit : ∀ b, b < m → ∀ j, j < 7 → blkF z b j = 48 ∨ blkF z b j = 49 := fun b hbm j hj => okB_zb z hok (7 * b + j) (by omega)
  have hys : (strF (m * 4) (decF z)).size = m * 4 := strF_size _ _
  have hyz : ∀ i, i < m * 4 → zb (strF (m * 4) (decF z)) i = decF z i := fun i hi => zb_strF hi (decF_lt z i)
  have hyb : bitsB (strF (m * 4) (decF z)) = true := by
    unfold bitsB
    rw [okB_of_zb _ fun i hi => ?_, decide_eq_true (by omega)]; rfl
    rw [hys] at hi
    rw [hyz i hi]
    exact cor_bit (hbit (i / 4) (by omega)) (plF4_lt _)
  have henc : ∀ i, i < 7 * m → encF (strF (m * 4) (decF z)) i = corF (blkF z (i / 7)) (i % 7) := by
    intro i hi
    unfold encF
    rw [← cor_word (hbit (i / 7) (by omega)) (show i % 7 < 7 by omega)]
    refine blkV_congr (fun k hk => ?_) (by omega)
    rw [hyz _ (by omega)]
    unfold decF
    rw [show (4 * (i / 7) + k) / 4 = i / 7 by omega, show (4 * (i / 7) + k) % 4 = k by omega]
  refine ⟨strF (m * 4) (decF z), strF (7 * m) (encF (strF (m * 4) (decF z))), ?_, by omega, ?_, by rw [strF_size, hz], ?_⟩
  · unfold hdAns; rw [if_pos ⟨hb, h7⟩, hm]
  · unfold heAns
    rw [if_pos ⟨hyb, by omega, by omega⟩, hys, show m * 4 / 4 * 7 = 7 * m by omega]
  · rw [hz, show 7 * m / 7 = m by omega]
    have key : ∀ b, b ≤ m → difN (zb (strF (7 * m) (encF (strF (m * 4) (decF z))))) (zb z) (7 * b) = cntF z b := by
      intro b
      induction b with
      | zero => intro _; rfl
      | succ b ih =>
        intro hbm
        rw [show 7 * (b + 1) = 7 * b + 7 by omega, difN_add, ih (by omega)]
        simp only [cntF]
        congr 1
        rw [← cor_count (hbit b (by omega))]
        refine difN_congr 7 fun i hi => ⟨?_, rfl⟩
        rw [zb_strF (show 7 * b + i < 7 * m by omega) (encF_lt _ _), henc _ (by omega), show (7 * b + i) / 7 = b by omega, show (7 * b + i) % 7 = i by omega]
    exact key m (Nat.le_refl _)
theorem he_ok {z : ByteArray} : okB (heAns z).1 (heAns z).1.size = true ∧ (heAns z).1.size ≤ 600 := by
  unfold heAns
  split
  · rename_i h
    refine ⟨okB_of_zb _ fun i hi => ?_, by rw [strF_size]; exact h.2.2⟩
    rw [strF_size] at hi
    rw [zb_strF hi (encF_lt _ _)]
    have hok : okB z z.size = true := by have := h.1; unfold bitsB at this; simp only [Bool.and_eq_true] at this; exact this.1
    have hb : ∀ k, k < 4 → zb z (4 * (i / 7) + k) = 48 ∨ zb z (4 * (i / 7) + k) = 49 := fun k hk => okB_zb z hok _ (by omega)
    unfold encF blkV
    by_cases e0 : i % 7 = 0
    · rw [if_pos e0]; exact ck3_bit _ _ _
    · rw [if_neg e0]
      by_cases e1 : i % 7 = 1
      · rw [if_pos e1]; exact ck3_bit _ _ _
      · rw [if_neg e1]
        by_cases e2 : i % 7 = 2
        · rw [if_pos e2]; exact hb 0 (by omega)
        · rw [if_neg e2]
          by_cases e3 : i % 7 = 3
          · rw [if_pos e3]; exact ck3_bit _ _ _
          · rw [if_neg e3]; exact hb _ (by omega)
  · exact ⟨rfl, by show 0 ≤ 600; omega⟩
end Go.Proofs.YtabokoodpobnnaaDoor
