/- FreePaths and AllocateTree of both sides, and the walks of their exact laws. -/
import Derived.Test.YtgfehabpoebaoaaFam2
import Derived.Test.YtgfehabpoebaoaaStrs
import Derived.Test.YtgfehabpoebaoaaStrFrame
namespace Go.Proofs.Ytgfehabpoebaoaa
open Go.RowKit
set_option linter.unusedVariables false
/-- A path without conflict with the used ones. -/
def freeB (n : Nat) (f : Nat → ByteArray) (p : ByteArray) : Bool := (List.range n).all fun j => !confB p (f j)
theorem freeB_succ (n : Nat) (f : Nat → ByteArray) (p : ByteArray) : freeB (n + 1) f p = (freeB n f p && !confB p (f n)) := by
  unfold freeB; rw [List.range_succ, List.all_append]; simp
theorem freeB_bad {n k : Nat} {f : Nat → ByteArray} {p : ByteArray} (hk : k < n) (h : confB p (f k) = true) : freeB n f p = false := by
  unfold freeB
  rw [List.all_eq_false]
  exact ⟨k, List.mem_range.2 hk, by rw [h]; simp⟩
def allPath (n : Nat) (f : Nat → ByteArray) : Bool := (List.range n).all fun j => pathB (f j)
theorem allPath_succ (n : Nat) (f : Nat → ByteArray) : allPath (n + 1) f = (allPath n f && pathB (f n)) := by
  unfold allPath; rw [List.range_succ, List.all_append]; simp
theorem allPath_bad {n k : Nat} {f : Nat → ByteArray} (hk : k < n) (h : pathB (f k) = false) : allPath n f = false := by
  unfold allPath
  rw [List.all_eq_false]
  exact ⟨k, List.mem_range.2 hk, by rw [h]; simp⟩
theorem allPath_at {n : Nat} {f : Nat → ByteArray} (h : allPath n f = true) (k : Nat) (hk : k < n) : pathB (f k) = true := by
  unfold allPath at h
  rw [List.all_eq_true] at h
  exact h k (List.mem_range.2 hk)
def usedB (n : Nat) (f : Nat → ByteArray) (d : Int) : Bool := decide (n ≤ 70) && ((decide (0 ≤ d) && decide (d ≤ 6)) && allPath n f)
theorem usedB_iff (n : Nat) (f : Nat → ByteArray) (d : Int) : usedB n f d = true ↔ n ≤ 70 ∧ (0 ≤ d ∧ d ≤ 6) ∧ allPath n f = true := by
  unfold usedB; simp only [Bool.and_eq_true, decide_eq_true_eq]
/-- The free paths among the first k ones. -/
def frL (n : Nat) (f : Nat → ByteArray) (d k : Nat) : List ByteArray := ((List.range k).filter fun i => freeB n f (digS i d)).map fun i => digS i d
theorem frL_yes {n : Nat} {f : Nat → ByteArray} {d k : Nat} (h : freeB n f (digS k d) = true) : frL n f d (k + 1) = frL n f d k ++ [digS k d] := by
  unfold frL; rw [List.range_succ, List.filter_append, List.map_append]; simp [h]
theorem frL_no {n : Nat} {f : Nat → ByteArray} {d k : Nat} (h : freeB n f (digS k d) = false) : frL n f d (k + 1) = frL n f d k := by
  unfold frL; rw [List.range_succ, List.filter_append, List.map_append]; simp [h]
theorem frL_len (n : Nat) (f : Nat → ByteArray) (d k : Nat) : (frL n f d k).length ≤ k := by
  unfold frL; rw [List.length_map]; exact Nat.le_trans (List.length_filter_le _ _) (by simp)
/-- A list of strings by index. -/
def LS (l : List ByteArray) (j : Nat) : ByteArray := l.getD j ⟨#[]⟩
theorem SF.snoc {w : World} {B : Nat} {v : Value} {l : List ByteArray} {y : ByteArray} (h : SF w B v (l.length + 1) (fun j => if j < l.length then LS l j else y)) : SF w B v (l ++ [y]).length (LS (l ++ [y])) := by
  rw [List.length_append, List.length_singleton]
  refine h.congr fun j hj => ?_
  unfold LS
  by_cases e : j < l.length
  · rw [if_pos e, List.getD_eq_getElem?_getD, List.getD_eq_getElem?_getD, List.getElem?_append_left e]
  · rw [if_neg e, List.getD_eq_getElem?_getD, List.getElem?_append_right (by omega), show j - l.length = 0 by omega]; rfl
end Go.Proofs.Ytgfehabpoebaoaa
