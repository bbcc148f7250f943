/- Contracts of the draws of two sequences. -/
import Derived.Test.YtlcnlhephhbhcaaDraw9
namespace Go.Proofs.Ytlcnlhephhbhcaa
open Go.RowKit
set_option linter.unusedVariables false
def TwoPost (b p : Nat) (zs : List Int) (w : World) (e : Ending) (w' : World) : Prop :=
  ∃ (x y : ByteArray) (q : Nat), e = .returned (.tuple #[.string x, .string y]) ∧ x.size ≤ 300 ∧ y.size ≤ 300 ∧ q ≤ p + 2000 ∧ RdAt w' b q zs ∧ w.grownBy w' (some b)
def DrawTwo (w : World) (e : Ending) (w' : World) : Prop := ∃ x y : ByteArray, e = .returned (.tuple #[.string x, .string y]) ∧ x.size ≤ 300 ∧ y.size ≤ 300 ∧ Below w.heap.size w w'
def DrawTwoInt (w : World) (e : Ending) (w' : World) : Prop := ∃ (x y : ByteArray) (k : Int), e = .returned (.tuple #[.string x, .string y, .int .i64 k]) ∧ x.size ≤ 300 ∧ y.size ≤ 300 ∧ FitsI k ∧ Below w.heap.size w w'
end Go.Proofs.Ytlcnlhephhbhcaa
