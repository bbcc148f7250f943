/- Bits in rows, read by columns, and back: of both sides. -/
import Derived.Test.YtkpiloefmhhclaaFrm2
namespace Go.Proofs.Ytkpiloefmhhclaa
open Go.RowKit Go.Shelf
set_option linter.unusedVariables false
set_option maxRecDepth 100000
/-- Bits that can be written in rows. -/
def fitB (z : ByteArray) (n : Int) : Bool := bitsB z && (decide (1 ≤ n) && (decide (n ≤ 40) && decide (z.size % n.toNat = 0)))
theorem fitB_iff (z : ByteArray) (n : Int) : fitB z n = true ↔ bitsB z = true ∧ 1 ≤ n ∧ n ≤ 40 ∧ z.size % n.toNat = 0 := by unfold fitB; simp only [Bool.and_eq_true, decide_eq_true_eq]
theorem fit_nat {z : ByteArray} {n : Int} (h : fitB z n = true) : ∃ R C : Nat, n = R ∧ 1 ≤ R ∧ R ≤ 40 ∧ z.size = R * C ∧ z.size / R = C ∧ z.size ≤ 600 ∧ C ≤ 600 := by
  obtain ⟨h1, h2, h3, h4⟩ := (fitB_iff z n).1 h
  have hz := (bits_of2 h1).2
  have hd := Nat.div_le_self z.size n.toNat
  refine ⟨n.toNat, z.size / n.toNat, by omega, by omega, by omega, ?_, rfl, hz, by omega⟩
  have := Nat.div_add_mod z.size n.toNat
  omega
def intAns (z : ByteArray) (n : Int) : ByteArray × Bool := if fitB z n then (weaveS z n.toNat (z.size / n.toNat), true) else noS
def deintAns (z : ByteArray) (n : Int) : ByteArray × Bool := if fitB z n then (weaveS z (z.size / n.toNat) n.toNat, true) else noS
end Go.Proofs.Ytkpiloefmhhclaa
