/- Contracts of PeakOf, of both sides. -/
import Derived.Test.YtlcnlhephhbhcaaSeqTable
namespace Go.Proofs.Ytlcnlhephhbhcaa
open Go.RowKit
set_option linter.unusedVariables false
/-- The index of the first greatest of the first n values; -1 if there is none. -/
def peakI (f : Nat → Int) : Nat → Int
  | 0 => -1
  | n + 1 => if peakI f n < 0 ∨ f (peakI f n).toNat < f n then (n : Int) else peakI f n
theorem peakI_bd (f : Nat → Int) : ∀ n : Nat, -1 ≤ peakI f n ∧ peakI f n < n ∧ (0 < n → 0 ≤ peakI f n)
  | 0 => by simp [peakI]
  | n + 1 => by
    have := peakI_bd f n
    simp only [peakI]
    split
    · omega
    · rename_i h
      have h1 : ¬ peakI f n < 0 := fun e => h (.inl e)
      omega
theorem peakI_zero (f : Nat → Int) : peakI f 0 = -1 := rfl
theorem peakI_new (f : Nat → Int) (n q : Nat) (h : peakI f n = q) (hl : f q < f n) : peakI f (n + 1) = (n : Int) := by
  simp only [peakI]; rw [if_pos]; right; rw [h]; exact hl
theorem peakI_old (f : Nat → Int) (n q : Nat) (h : peakI f n = q) (hl : ¬ f q < f n) : peakI f (n + 1) = (q : Int) := by
  simp only [peakI]; rw [if_neg, h]; intro e; rw [h] at e
  rcases e with e | e
  · omega
  · exact hl e
theorem peakI_one (f : Nat → Int) : peakI f 1 = (0 : Nat) := by simp [peakI]
def peakAns (a b : ByteArray) : Int := peakI (tabF a b) (tabN a b)
end Go.Proofs.Ytlcnlhephhbhcaa
