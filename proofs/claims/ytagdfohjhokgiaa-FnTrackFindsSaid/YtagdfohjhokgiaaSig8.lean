/- Correlations of a signal with a code: contracts of both sides. -/
import Derived.Test.YtagdfohjhokgiaaSig7
import Derived.IntWalk
namespace Go.Proofs.Ytagdfohjhokgiaa
open Go.RowKit
set_option linter.unusedVariables false
set_option maxRecDepth 100000
/-- A signal, a code, a delay and a number of bits that can be used. -/
def rcB (n : Nat) (f : Nat → Int) (q : ByteArray) (d c : Int) : Bool := sigB n f && (seqB q && (inK d && (decide (0 ≤ c) && decide (c ≤ 600))))
theorem rcB_iff (n : Nat) (f : Nat → Int) (q : ByteArray) (d c : Int) : rcB n f q d c = true ↔ sigB n f = true ∧ seqB q = true ∧ (0 ≤ d ∧ d ≤ 3000) ∧ 0 ≤ c ∧ c ≤ 600 := by
  unfold rcB; simp only [Bool.and_eq_true, decide_eq_true_eq, inK_iff]
theorem rc_no {n : Nat} {f : Nat → Int} {q : ByteArray} {d c : Int} (h : ¬ (sigB n f = true ∧ seqB q = true ∧ (0 ≤ d ∧ d ≤ 3000) ∧ 0 ≤ c ∧ c ≤ 600)) : false = rcB n f q d c := by
  cases hb : rcB n f q d c with
  | false => rfl
  | true => exact absurd ((rcB_iff _ _ _ _ _).1 hb) h
/-- The correlation of m samples from a place on with a code. -/
def coR (f : Nat → Int) (q : ByteArray) (at_ : Nat) : Nat → Int := sumI (fun i => f (at_ + i) * chF q i)
theorem coR_succ (f : Nat → Int) (q : ByteArray) (at_ m : Nat) : coR f q at_ (m + 1) = coR f q at_ m + f (at_ + m) * chF q m := rfl
/-- The same, as far as the signal goes. -/
def coF (n : Nat) (f : Nat → Int) (q : ByteArray) (at_ : Nat) : Int := coR f q at_ (min q.size (n - at_))
def coL (n : Nat) (f : Nat → Int) (q : ByteArray) (d : Nat) (i : Nat) : Int := coF n f q (d + i * q.size)
theorem chip_bd {y c : Int} (h1 : -1000000 ≤ y) (h2 : y ≤ 1000000) (hc : c = 1 ∨ c = -1) : -1000000 ≤ y * c ∧ y * c ≤ 1000000 := by
  rcases hc with rfl | rfl
  · rw [Int.mul_one]; exact ⟨h1, h2⟩
  · rw [Int.mul_neg, Int.mul_one]; omega
theorem coR_bd {n : Nat} {f : Nat → Int} {q : ByteArray} (hA : allM n f = true) (hq : okB q q.size = true) (at_ : Nat) : ∀ m, m ≤ q.size → at_ + m ≤ n → -(1000000 * (m : Int)) ≤ coR f q at_ m ∧ coR f q at_ m ≤ 1000000 * (m : Int)
  | 0, _, _ => by simp [coR, sumI]
  | m + 1, h1, h2 => by
    have ih := coR_bd hA hq at_ m (by omega) (by omega)
    have hz := allM_at hA (show at_ + m < n by omega)
    have := chip_bd hz.1 hz.2 (chF_bd hq (show m < q.size by omega))
    rw [coR_succ]; omega
end Go.Proofs.Ytagdfohjhokgiaa
