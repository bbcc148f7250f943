/- Barker codes in reverse order, with all bits changed, and with every other bit changed. -/
import Derived.Test.YtgfehabpoebaoaaFam1
import Derived.Test.YtgfehabpoebaoaaSeqAlg
namespace Go.Proofs.Ytgfehabpoebaoaa
open Go.RowKit
set_option linter.unusedVariables false
theorem bark_same {a b : ByteArray} (ha : seqB a = true) (hb : seqB b = true) (hs : a.size = b.size) (h : ∀ k, k < a.size → smallB (aperN a k) = smallB (aperN b k)) : barkB a = barkB b := by
  unfold barkB barkTo
  rw [ha, hb, Bool.true_and, Bool.true_and, ← hs]
  rw [Bool.eq_iff_iff, List.all_eq_true, List.all_eq_true]
  constructor <;> intro q k hk
  · have := q k hk
    rw [List.mem_range] at hk
    rw [← h k hk]; exact this
  · have := q k hk
    rw [List.mem_range] at hk
    rw [h k hk]; exact this
theorem bark_rev {z : ByteArray} (h : seqB z = true) : barkB (revS z) = barkB z := by
  obtain ⟨h1, h2, h3⟩ := (seqB_iff z).1 h
  exact bark_same ((seqB_iff _).2 ⟨revS_ok z h1, by rw [revS_size]; exact h2, by rw [revS_size]; exact h3⟩) h (revS_size z) fun k hk => by
    rw [revS_size] at hk
    rw [aper_rev z k hk]
theorem agr_flip {x y : Nat} (hx : x = 48 ∨ x = 49) (hy : y = 48 ∨ y = 49) : agr (97 - x) (97 - y) = agr x y ∧ agr (97 - x) y = - agr x y ∧ agr x (97 - y) = - agr x y := by
  rcases hx with rfl | rfl <;> rcases hy with rfl | rfl <;> decide
theorem bark_inv {z : ByteArray} (h : seqB z = true) : barkB (invS z) = barkB z := by
  obtain ⟨h1, h2, h3⟩ := (seqB_iff z).1 h
  exact bark_same ((seqB_iff _).2 ⟨invS_ok z h1, by rw [invS_size]; exact h2, by rw [invS_size]; exact h3⟩) h (invS_size z) fun k hk => by
    rw [invS_size] at hk
    congr 1
    unfold aperN
    rw [invS_size]
    refine sumI_congr _ fun i hi => ?_
    rw [zb_invS z i (by omega), zb_invS z (k + i) (by omega)]
    exact (agr_flip (okB_zb z h1 i (by omega)) (okB_zb z h1 (k + i) (by omega))).1
/-- Every other bit changed. -/
def altF (z : ByteArray) (i : Nat) : Nat := if i % 2 = 1 then 97 - zb z i else zb z i
def altS (z : ByteArray) : ByteArray := strF z.size (altF z)
theorem altF_lt (z : ByteArray) (i : Nat) : altF z i < 256 := by have := zb_lt z i; unfold altF; split <;> omega
theorem altS_size (z : ByteArray) : (altS z).size = z.size := strF_size _ _
theorem zb_altS {z : ByteArray} {i : Nat} (hi : i < z.size) : zb (altS z) i = altF z i := zb_strF hi (altF_lt z i)
theorem altS_ok {z : ByteArray} (h : okB z z.size = true) : okB (altS z) (altS z).size = true := okB_of_zb _ fun i hi => by
  rw [altS_size] at hi
  rw [zb_altS hi]
  unfold altF
  rcases okB_zb z h i hi with e | e <;> rw [e] <;> split <;> simp
theorem small_neg (x : Int) : smallB (-x) = smallB x := by
  unfold smallB
  rw [Bool.eq_iff_iff, Bool.and_eq_true, Bool.and_eq_true, decide_eq_true_eq, decide_eq_true_eq, decide_eq_true_eq, decide_eq_true_eq]
  omega
theorem bark_alt {z : ByteArray} (h : seqB z = true) : barkB (altS z) = barkB z := by
  obtain ⟨h1, h2, h3⟩ := (seqB_iff z).1 h
  refine bark_same ((seqB_iff _).2 ⟨altS_ok h1, by rw [altS_size]; exact h2, by rw [altS_size]; exact h3⟩) h (altS_size z) fun k hk => ?_
  rw [altS_size] at hk
  have e : ∀ i, i < z.size - k → agr (zb (altS z) i) (zb (altS z) (k + i)) = if k % 2 = 0 then agr (zb z i) (zb z (k + i)) else - agr (zb z i) (zb z (k + i)) := fun i hi => by
    rw [zb_altS (by omega), zb_altS (by omega)]
    obtain ⟨a1, a2, a3⟩ := agr_flip (okB_zb z h1 i (by omega)) (okB_zb z h1 (k + i) (by omega))
    unfold altF
    by_cases hk2 : k % 2 = 0
    · rw [if_pos hk2]
      by_cases hi2 : i % 2 = 1
      · rw [if_pos hi2, if_pos (by omega)]; exact a1
      · rw [if_neg hi2, if_neg (by omega)]
    · rw [if_neg hk2]
      by_cases hi2 : i % 2 = 1
      · rw [if_pos hi2, if_neg (by omega)]; exact a2
      · rw [if_neg hi2, if_pos (by omega)]; exact a3
  unfold aperN
  rw [altS_size, sumI_congr _ e]
  by_cases hk2 : k % 2 = 0
  · simp only [if_pos hk2]
  · simp only [if_neg hk2]
    rw [sumI_neg, small_neg]
theorem bark_not {z : ByteArray} (h : seqB z = false) : barkB z = false := by unfold barkB; rw [h]; rfl
theorem bark_is {z : ByteArray} (h : seqB z = true) : barkB z = barkTo z z.size := by unfold barkB; rw [h]; rfl
/-- The bytes behind the changes of the odd places below I. -/
def altI (z : ByteArray) (I j : Nat) : Nat := if j < I ∧ j % 2 = 1 then 97 - zb z j else zb z j
theorem altI_end {z : ByteArray} {I j : Nat} (hI : z.size ≤ I) (hj : j < z.size) : altI z I j = altF z j := by
  unfold altI altF
  by_cases h : j % 2 = 1
  · rw [if_pos ⟨by omega, h⟩, if_pos h]
  · rw [if_neg (fun e => h e.2), if_neg h]
end Go.Proofs.Ytgfehabpoebaoaa
