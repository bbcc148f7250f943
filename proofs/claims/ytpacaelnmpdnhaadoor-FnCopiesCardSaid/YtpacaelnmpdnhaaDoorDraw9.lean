/- Contracts of the draws of sequences: what is sometimes none, shifts, two sequences, the draws of the laws. Contracts of the draws of two sequences. -/
import Derived.Test.YtpacaelnmpdnhaaDoorDraw5
import Derived.Test.YtpacaelnmpdnhaaDoorSeqFun3
namespace Go.Proofs.YtpacaelnmpdnhaaDoor
open Go.RowKit
set_option linter.unusedVariables false
/-- A string that may be none: not longer than 300. -/
def AnyPost (b p : Nat) (zs : List Int) (w : World) (e : Ending) (w' : World) : Prop :=
  ∃ (z : ByteArray) (q : Nat), e = .returned (.string z) ∧ z.size ≤ 300 ∧ q ≤ p + 300 ∧ RdAt w' b q zs ∧ w.grownBy w' (some b)
/-- A sequence and a number were drawn. -/
def DrawStrInt (w : World) (e : Ending) (w' : World) : Prop := ∃ (z : ByteArray) (k : Int), e = .returned (.tuple #[.string z, .int .i64 k]) ∧ z.size ≤ 300 ∧ FitsI k ∧ Below w.heap.size w w'
def DrawStr (w : World) (e : Ending) (w' : World) : Prop := ∃ z : ByteArray, e = .returned (.string z) ∧ z.size ≤ 300 ∧ Below w.heap.size w w'
end Go.Proofs.YtpacaelnmpdnhaaDoor
namespace Go.Proofs.YtpacaelnmpdnhaaDoor
open Go.RowKit
set_option linter.unusedVariables false
def TwoPost (b p : Nat) (zs : List Int) (w : World) (e : Ending) (w' : World) : Prop :=
  ∃ (x y : ByteArray) (q : Nat), e = .returned (.tuple #[.string x, .string y]) ∧ x.size ≤ 300 ∧ y.size ≤ 300 ∧ q ≤ p + 2000 ∧ RdAt w' b q zs ∧ w.grownBy w' (some b)
def DrawTwo (w : World) (e : Ending) (w' : World) : Prop := ∃ x y : ByteArray, e = .returned (.tuple #[.string x, .string y]) ∧ x.size ≤ 300 ∧ y.size ≤ 300 ∧ Below w.heap.size w w'
def DrawTwoInt (w : World) (e : Ending) (w' : World) : Prop := ∃ (x y : ByteArray) (k : Int), e = .returned (.tuple #[.string x, .string y, .int .i64 k]) ∧ x.size ≤ 300 ∧ y.size ≤ 300 ∧ FitsI k ∧ Below w.heap.size w w'
end Go.Proofs.YtpacaelnmpdnhaaDoor
