/- The walk of the law FnSyndrome. -/
import Derived.Test.YtabokoodpobnnaaDoorBlk
import Derived.Test.YtabokoodpobnnaaDoorFrm5
import Derived.Test.YtabokoodpobnnaaDoorSsStr
namespace Go.Proofs.YtabokoodpobnnaaDoor
open Go.RowKit
set_option linter.unusedVariables false
set_option maxRecDepth 100000
/-- The syndrome of a sum is the sum of the syndromes. -/
theorem synF_add {f g h : Nat → Nat} : ∀ k, (∀ i, i < k → (h i = 49 ↔ ¬ (f i = 49 ↔ g i = 49))) → synF h k = synF f k ^^^ synF g k
  | 0, _ => by show (0 : Nat) = 0 ^^^ 0; decide
  | k + 1, hh => by
    have ih := synF_add k (fun i hi => hh i (by omega))
    have hk := hh k (by omega)
    simp only [synF]
    by_cases hf : f k = 49 <;> by_cases hg : g k = 49
    · have h1 : ¬ h k = 49 := fun e => (hk.1 e) ⟨fun _ => hg, fun _ => hf⟩
      rw [if_neg h1, if_pos hf, if_pos hg, ih]
      rw [Nat.xor_assoc, ← Nat.xor_assoc (k + 1), Nat.xor_comm (k + 1) (synF g k), Nat.xor_assoc (synF g k), Nat.xor_self, Nat.xor_zero]
    · have h1 : h k = 49 := hk.2 (fun e => hg (e.1 hf))
      rw [if_pos h1, if_pos hf, if_neg hg, ih, Nat.xor_assoc, Nat.xor_assoc, Nat.xor_comm (synF g k)]
    · have h1 : h k = 49 := hk.2 (fun e => hf (e.2 hg))
      rw [if_pos h1, if_neg hf, if_pos hg, ih, Nat.xor_assoc]
    · have h1 : ¬ h k = 49 := fun e => (hk.1 e) ⟨fun a => absurd a hf, fun a => absurd a hg⟩
      rw [if_neg h1, if_neg hf, if_neg hg, ih]
theorem syn_unit : ∀ j, j < 7 → synF (fun i => if i = j then 49 else 48) 7 = j + 1 := by decide
theorem bitsM {z : ByteArray} (h : okB z z.size = true) (h6 : z.size ≤ 600) : bitsB z = true := by unfold bitsB; rw [h, decide_eq_true h6]; rfl
theorem syn_flip {z : ByteArray} (ho : okB z z.size = true) (h7 : z.size = 7) {j : Nat} (hj : j < 7) : synAns (flipS z j) = ((synF (zb z) 7 ^^^ (j + 1) : Nat) : Int) := by
  unfold synAns
  rw [if_pos ⟨bitsM (flipS_ok ho j) (by rw [flipS_size]; omega), by rw [flipS_size]; exact h7⟩]
  congr 1
  rw [← syn_unit j hj]
  refine synF_add 7 fun i hi => ?_
  rw [zb_flipS (by omega)]
  by_cases e : i = j
  · rw [if_pos e, if_pos e]
    rcases okB_zb z ho i (by omega) with x | x <;> rw [x] <;> decide
  · rw [if_neg e, if_neg e]
    rcases okB_zb z ho i (by omega) with x | x <;> rw [x] <;> decide
theorem syn_add {z y : ByteArray} (ho : okB z z.size = true) (h7 : z.size = 7) (hy : okB y y.size = true) (y7 : y.size = 7) : synAns (addS z y) = ((synF (zb z) 7 ^^^ synF (zb y) 7 : Nat) : Int) := by
  unfold synAns
  rw [if_pos ⟨bitsM (addS_ok z y) (by rw [addS_size]; omega), by rw [addS_size]; exact h7⟩]
  congr 1
  refine synF_add 7 fun i hi => ?_
  rw [zb_addS z y i (by omega)]
  rcases okB_zb z ho i (by omega) with x | x <;> rcases okB_zb y hy i (by omega) with u | u <;> rw [x, u] <;> decide
theorem pad4 : ∀ s : Nat, 1 ≤ s → s ≤ 4 → s + modN (-(s : Int)) 4 = 4 := by
  intro s h1 h2
  have h : s = 1 ∨ s = 2 ∨ s = 3 ∨ s = 4 := by omega
  rcases h with rfl | rfl | rfl | rfl <;> decide
theorem many48_ok (n : Nat) : okB (many ⟨#[48]⟩ n) (many ⟨#[48]⟩ n).size = true := okB_of_zb _ fun i hi => by
  left
  rw [many_byte_size] at hi
  rw [zb_many _ _ _ (by show i < 1 * n; omega)]
  show zb ⟨#[48]⟩ (i % 1) = 48
  rw [Nat.mod_one]; rfl
end Go.Proofs.YtabokoodpobnnaaDoor
