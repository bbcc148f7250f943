/- CutSignal of both sides. -/
import Derived.Test.YtagdfohjhokgiaaSig6
namespace Go.Proofs.Ytagdfohjhokgiaa
open Go.RowKit
set_option linter.unusedVariables false
set_option maxRecDepth 100000
def cutF (k : Nat) (f : Nat → Int) (i : Nat) : Int := f (k + i)
def ctB (n : Nat) (k m : Int) : Bool := decide (0 ≤ k) && (decide (k ≤ n) && (decide (0 ≤ m) && decide (m ≤ n - k)))
theorem ctB_iff (n : Nat) (k m : Int) : ctB n k m = true ↔ 0 ≤ k ∧ k ≤ n ∧ 0 ≤ m ∧ m ≤ n - k := by unfold ctB; simp only [Bool.and_eq_true, decide_eq_true_eq]
def ctOK (n : Nat) (f : Nat → Int) (k m : Int) : Bool := sigB n f && ctB n k m
def ctN (n : Nat) (f : Nat → Int) (k m : Int) : Nat := if ctOK n f k m then m.toNat else 0
theorem ctN_le6 (n : Nat) (f : Nat → Int) (k m : Int) : ctN n f k m ≤ 1000000 := by
  unfold ctN ctOK
  split
  · rename_i h
    rw [Bool.and_eq_true] at h
    have := ((sigB_iff n f).1 h.1).2
    have := (ctB_iff n k m).1 h.2
    omega
  · omega
theorem ct_in {n : Nat} {f : Nat → Int} {k m : Int} (h1 : sigB n f = true) (h2 : ctB n k m = true) : ctN n f k m = m.toNat ∧ ctOK n f k m = true := by
  unfold ctN ctOK; rw [h1, h2]; simp
theorem ct_out {n : Nat} {f : Nat → Int} {k m : Int} (h : ¬ (sigB n f = true ∧ ctB n k m = true)) : ctN n f k m = 0 ∧ ctOK n f k m = false := by
  have : ctOK n f k m = false := by
    unfold ctOK
    cases h1 : sigB n f with
    | false => rfl
    | true =>
      cases h2 : ctB n k m with
      | false => rfl
      | true => exact absurd ⟨h1, h2⟩ h
  exact ⟨by unfold ctN; rw [this]; rfl, this⟩
theorem ct_splice (k m : Nat) (f : Nat → Int) : splice (List.replicate m (Value.int .i64 0)) 0 ((List.range m).map fun i => Value.int .i64 (f (k + i))) = (List.range m).map fun j => Value.int .i64 (cutF k f j) := by
  unfold splice cutF
  simp
end Go.Proofs.Ytagdfohjhokgiaa
