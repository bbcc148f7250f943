/- Signals: which numbers are one, of both sides; marks from any number on. -/
import Derived.Test.YtpacaelnmpdnhaaDoorIntsBig
import Derived.Test.YtpacaelnmpdnhaaDoorSeqFun
namespace Go.Proofs.YtpacaelnmpdnhaaDoor
open Go.RowKit
set_option linter.unusedVariables false
set_option maxRecDepth 100000
def inM (x : Int) : Bool := decide (-1000000 ≤ x) && decide (x ≤ 1000000)
theorem inM_iff (x : Int) : inM x = true ↔ -1000000 ≤ x ∧ x ≤ 1000000 := by unfold inM; simp only [Bool.and_eq_true, decide_eq_true_eq]
def allM (n : Nat) (f : Nat → Int) : Bool := (List.range n).all fun j => inM (f j)
theorem allM_succ (n : Nat) (f : Nat → Int) : allM (n + 1) f = (allM n f && inM (f n)) := by unfold allM; rw [List.range_succ, List.all_append]; simp
theorem allM_bad {n k : Nat} {f : Nat → Int} (hk : k < n) (h : inM (f k) = false) : allM n f = false := by
  unfold allM
  rw [List.all_eq_false]
  exact ⟨k, List.mem_range.2 hk, by rw [h]; simp⟩
theorem allM_at {n k : Nat} {f : Nat → Int} (h : allM n f = true) (hk : k < n) : -1000000 ≤ f k ∧ f k ≤ 1000000 := by
  unfold allM at h
  exact (inM_iff _).1 (List.all_eq_true.1 h k (List.mem_range.2 hk))
theorem allM_of {n : Nat} {f : Nat → Int} (h : ∀ k, k < n → -1000000 ≤ f k ∧ f k ≤ 1000000) : allM n f = true := by
  unfold allM
  rw [List.all_eq_true]
  exact fun k hk => (inM_iff _).2 (h k (List.mem_range.1 hk))
theorem allM_congr {n : Nat} {f g : Nat → Int} (h : ∀ k, k < n → f k = g k) : allM n f = allM n g := by
  unfold allM
  rw [Bool.eq_iff_iff, List.all_eq_true, List.all_eq_true]
  constructor
  · intro e k hk; rw [← h k (List.mem_range.1 hk)]; exact e k hk
  · intro e k hk; rw [h k (List.mem_range.1 hk)]; exact e k hk
/-- A signal: at most 3000 samples, each within the limit. -/
def sigB (n : Nat) (f : Nat → Int) : Bool := allM n f && decide (n ≤ 3000)
theorem sigB_iff (n : Nat) (f : Nat → Int) : sigB n f = true ↔ allM n f = true ∧ n ≤ 3000 := by unfold sigB; simp only [Bool.and_eq_true, decide_eq_true_eq]
theorem sig_long {n : Nat} {f : Nat → Int} (h : ¬ n ≤ 3000) : false = sigB n f := by unfold sigB; rw [decide_eq_false h, Bool.and_false]
theorem sig_bad {n k : Nat} {f : Nat → Int} (hk : k < n) (h : inM (f k) = false) : false = sigB n f := by unfold sigB; rw [allM_bad hk h]; rfl
end Go.Proofs.YtpacaelnmpdnhaaDoor
