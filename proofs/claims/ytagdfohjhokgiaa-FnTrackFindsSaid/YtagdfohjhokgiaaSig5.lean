/- ClipSignal, CutSignal and DelaySignal of both sides. -/
import Derived.Test.YtagdfohjhokgiaaSig4
namespace Go.Proofs.Ytagdfohjhokgiaa
open Go.RowKit
set_option linter.unusedVariables false
set_option maxRecDepth 100000
/-- Limited samples. -/
def clF (l : Int) (f : Nat → Int) (i : Nat) : Int := max (-l) (min l (f i))
def inL (l : Int) : Bool := decide (0 ≤ l) && decide (l ≤ 1000000)
theorem inL_iff (l : Int) : inL l = true ↔ 0 ≤ l ∧ l ≤ 1000000 := by unfold inL; simp only [Bool.and_eq_true, decide_eq_true_eq]
def clOK (n : Nat) (f : Nat → Int) (l : Int) : Bool := sigB n f && inL l
def clN (n : Nat) (f : Nat → Int) (l : Int) : Nat := if clOK n f l then n else 0
theorem clN_le6 (n : Nat) (f : Nat → Int) (l : Int) : clN n f l ≤ 1000000 := by
  unfold clN clOK
  split
  · rename_i h
    rw [Bool.and_eq_true] at h
    have := ((sigB_iff n f).1 h.1).2
    omega
  · omega
theorem cl_in {n : Nat} {f : Nat → Int} {l : Int} (h1 : sigB n f = true) (h2 : inL l = true) : clN n f l = n ∧ clOK n f l = true := by
  unfold clN clOK; rw [h1, h2]; simp
theorem cl_out {n : Nat} {f : Nat → Int} {l : Int} (h : ¬ (sigB n f = true ∧ inL l = true)) : clN n f l = 0 ∧ clOK n f l = false := by
  have : clOK n f l = false := by
    unfold clOK
    cases h1 : sigB n f with
    | false => rfl
    | true =>
      cases h2 : inL l with
      | false => rfl
      | true => exact absurd ⟨h1, h2⟩ h
  exact ⟨by unfold clN; rw [this]; rfl, this⟩
end Go.Proofs.Ytagdfohjhokgiaa
