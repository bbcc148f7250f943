/- Contracts of TreeCode, of both sides. -/
import Derived.Test.YtkkakfkebjdkeaaFam3
import Derived.Test.YtkkakfkebjdkeaaSeqFun3
namespace Go.Proofs.Ytkkakfkebjdkeaa
open Go.RowKit
set_option linter.unusedVariables false
theorem xor_u8 (a b : Nat) (ha : a < 2) (hb : b < 2) : bits .xor .u8 (a : Int) (b : Int) = (((a + b) % 2 : Nat) : Int) := by
  have h1 : a = 0 ∨ a = 1 := by omega
  have h2 : b = 0 ∨ b = 1 := by omega
  rcases h1 with rfl | rfl <;> rcases h2 with rfl | rfl <;> rfl
/-- The bit of the code of the first bits of a path. -/
def codeF (p : ByteArray) : Nat → Nat → Nat
  | 0, _ => 0
  | j + 1, k => if k < tw j then codeF p j k else (codeF p j (k - tw j) + (zb p j - 48)) % 2
theorem codeF_lt (p : ByteArray) : ∀ j k, codeF p j k < 2
  | 0, _ => by simp [codeF]
  | j + 1, k => by
    simp only [codeF]
    split
    · exact codeF_lt p j k
    · omega
def treeS (p : ByteArray) (j : Nat) : ByteArray := strF (tw j) (fun k => 48 + codeF p j k)
theorem treeS_size (p : ByteArray) (j : Nat) : (treeS p j).size = tw j := strF_size _ _
theorem zb_treeS (p : ByteArray) (j i : Nat) (h : i < tw j) : zb (treeS p j) i = 48 + codeF p j i := zb_strF h (by have := codeF_lt p j i; omega)
theorem treeS_zero (p : ByteArray) : treeS p 0 = ⟨#[48]⟩ := rfl
theorem treeS_seq (p : ByteArray) (j : Nat) (h : j ≤ 6) : seqB (treeS p j) = true := by
  have h1 := tw_pos j
  have h2 := tw_6 j h
  refine (seqB_iff _).2 ⟨okB_of_zb _ fun i hi => ?_, by rw [treeS_size]; exact h1, by rw [treeS_size]; omega⟩
  rw [treeS_size] at hi
  rw [zb_treeS p j i hi]
  have := codeF_lt p j i
  omega
theorem treeS_same (p : ByteArray) (j : Nat) (h : zb p j = 48) : treeS p j ++ treeS p j = treeS p (j + 1) := by
  apply strF_of
  · rw [ByteArray.size_append, treeS_size, tw_succ]; omega
  · intro i hi
    rw [tw_succ] at hi
    simp only [codeF]
    by_cases hl : i < tw j
    · rw [zb_append_left _ _ _ (by rw [treeS_size]; exact hl), zb_treeS p j i hl, if_pos hl]
    · rw [zb_append_right _ _ _ (by rw [treeS_size]; omega) (by rw [treeS_size]; omega), treeS_size, zb_treeS p j _ (by omega), if_neg hl, h]
      have := codeF_lt p j (i - tw j)
      omega
theorem treeS_turn (p : ByteArray) (j : Nat) (h : zb p j = 49) : treeS p j ++ invS (treeS p j) = treeS p (j + 1) := by
  apply strF_of
  · rw [ByteArray.size_append, invS_size, treeS_size, tw_succ]; omega
  · intro i hi
    rw [tw_succ] at hi
    simp only [codeF]
    by_cases hl : i < tw j
    · rw [zb_append_left _ _ _ (by rw [treeS_size]; exact hl), zb_treeS p j i hl, if_pos hl]
    · rw [zb_append_right _ _ _ (by rw [treeS_size]; omega) (by rw [invS_size, treeS_size]; omega), treeS_size, zb_invS _ _ (by rw [treeS_size]; omega), zb_treeS p j _ (by omega), if_neg hl, h]
      have := codeF_lt p j (i - tw j)
      omega
def treeAns (p : ByteArray) : ByteArray × Bool := if pathB p then (treeS p p.size, true) else noS
end Go.Proofs.Ytkkakfkebjdkeaa
