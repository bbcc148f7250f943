/- Contracts of the draws of chapter 4: signals and numbers. -/
import Derived.Test.YtpcogmpnmkmoeabDrawSig
import Derived.Test.YtpcogmpnmkmoeabDraw9
namespace Go.Proofs.Ytpcogmpnmkmoeab
open Go.RowKit
set_option linter.unusedVariables false
set_option maxRecDepth 100000
def strLn : Value → Nat
  | .string z => z.size
  | _ => 0
theorem OF.off {w : World} {b : Nat} {v : Value} {n : Nat} {f : Nat → Int} (h : OF w (b + 1) v n f) : v.ownBlock = none ∨ v.ownBlock ≠ some b := by
  cases hv : v.ownBlock with
  | none => exact .inl rfl
  | some q => right; intro e; cases e; have := (h.lt _ hv).1; omega
/-- A signal and a number were drawn. -/
def DrawSigInt (w : World) (e : Ending) (w' : World) : Prop := ∃ (v : Value) (n : Nat) (f : Nat → Int) (k : Int), e = .returned (.tuple #[v, .int .i64 k]) ∧ OF w' w.heap.size v n f ∧ n ≤ 3001 ∧ (∀ j, j < n → FitsI (f j)) ∧ FitsI k ∧ Below w.heap.size w w'
/-- A signal and two numbers were drawn. -/
def DrawSigInts (w : World) (e : Ending) (w' : World) : Prop := ∃ (v : Value) (n : Nat) (f : Nat → Int) (k l : Int), e = .returned (.tuple #[v, .int .i64 k, .int .i64 l]) ∧ OF w' w.heap.size v n f ∧ n ≤ 3001 ∧ (∀ j, j < n → FitsI (f j)) ∧ FitsI k ∧ FitsI l ∧ Below w.heap.size w w'
/-- Two signals were drawn. -/
def DrawSigs (w : World) (e : Ending) (w' : World) : Prop := ∃ (v : Value) (n : Nat) (f : Nat → Int) (u : Value) (m : Nat) (g : Nat → Int), e = .returned (.tuple #[v, u]) ∧ OF w' w.heap.size v n f ∧ n ≤ 3001 ∧ (∀ j, j < n → FitsI (f j)) ∧ OF w' w.heap.size u m g ∧ m ≤ 3001 ∧ (∀ j, j < m → FitsI (g j)) ∧ Below w.heap.size w w'
end Go.Proofs.Ytpcogmpnmkmoeab
