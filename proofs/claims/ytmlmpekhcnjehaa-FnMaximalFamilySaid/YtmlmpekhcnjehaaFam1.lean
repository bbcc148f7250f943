/- Contracts of TreeConflict and BarkerValid, of both sides. -/
import Derived.Test.YtmlmpekhcnjehaaSeqAper
import Derived.Test.YtmlmpekhcnjehaaGold
namespace Go.Proofs.Ytmlmpekhcnjehaa
open Go.RowKit
set_option linter.unusedVariables false
/-- A path: at most 6 bits. -/
def pathB (z : ByteArray) : Bool := okB z z.size && decide (z.size ≤ 6)
theorem pathB_iff (z : ByteArray) : pathB z = true ↔ okB z z.size = true ∧ z.size ≤ 6 := by unfold pathB; simp only [Bool.and_eq_true, decide_eq_true_eq]
theorem path_bits {z : ByteArray} (h : z.size ≤ 6) : bitsB z = pathB z := by unfold bitsB pathB; rw [decide_eq_true (by omega : z.size ≤ 600), decide_eq_true h]
theorem path_long {z : ByteArray} (h : ¬ z.size ≤ 6) : false = pathB z := by unfold pathB; rw [decide_eq_false h, Bool.and_false]
theorem path_nobits {z : ByteArray} (h : bitsB z = false) : false = pathB z := by
  by_cases h6 : z.size ≤ 6
  · rw [← path_bits h6, h]
  · exact path_long h6
theorem path_okbits {z : ByteArray} (h : bitsB z = true) : decide ((z.size : Int) ≤ 6) = pathB z := by
  unfold bitsB at h
  simp only [Bool.and_eq_true] at h
  unfold pathB
  rw [h.1, Bool.true_and, decide_eq_decide]; omega
set_option maxRecDepth 100000 in
theorem orderValid_any (S : Int) (w : World) :
    Calls Try.prog 61 #[.int .i64 S] w fun e w' => e = .returned (.bool (decide (0 ≤ S) && decide (S ≤ 6))) ∧ w = w' := by
  by_cases h1 : 0 ≤ S
  · go_enter Try.func61, Try.ntmps61
    go_wp2
    go_ret
    exact ⟨ret_bool (by simp [h1]), rfl⟩
  · go_enter Try.func61, Try.ntmps61
    go_wp2
    go_ret
    exact ⟨ret_bool (by rw [decide_eq_false (by omega : ¬ 0 ≤ S)]; rfl), rfl⟩
theorem orderValid_yes (S : Int) (w : World) (h1 : 0 ≤ S) (h2 : S ≤ 6) :
    Calls Try.prog 61 #[.int .i64 S] w fun e w' => e = .returned (.bool true) ∧ w = w' := by
  rw [← in_yes h1 h2]; exact orderValid_any S w
theorem orderValid_no (S : Int) (w : World) (h : ¬ (0 ≤ S ∧ S ≤ 6)) :
    Calls Try.prog 61 #[.int .i64 S] w fun e w' => e = .returned (.bool false) ∧ w = w' := by
  rw [← in_no h]; exact orderValid_any S w
/-- The shorter one is the beginning of the other one. -/
def begB (p q : ByteArray) : Bool := if p.size ≤ q.size then p.toList == (q.extract 0 p.size).toList else (p.extract 0 q.size).toList == q.toList
def confB (p q : ByteArray) : Bool := pathB p && (pathB q && begB p q)
/-- The correlations without repetition from 1 to n - 1 are small. -/
def smallB (x : Int) : Bool := decide (-1 ≤ x) && decide (x ≤ 1)
def barkTo (z : ByteArray) (n : Nat) : Bool := (List.range n).all fun k => k == 0 || smallB (aperN z k)
def barkB (z : ByteArray) : Bool := seqB z && barkTo z z.size
theorem barkTo_one (z : ByteArray) : barkTo z 1 = true := rfl
theorem barkTo_succ (z : ByteArray) (k : Nat) (h : 0 < k) : barkTo z (k + 1) = (barkTo z k && smallB (aperN z k)) := by
  unfold barkTo
  rw [List.range_succ, List.all_append]
  have : (k == 0) = false := by simp; omega
  simp [this]
theorem barkTo_bad (z : ByteArray) (k n : Nat) (h0 : 0 < k) (hk : k < n) (h : smallB (aperN z k) = false) : barkTo z n = false := by
  unfold barkTo
  rw [List.all_eq_false]
  refine ⟨k, List.mem_range.2 hk, ?_⟩
  have : (k == 0) = false := by simp; omega
  simp [this, h]
theorem small_iff (x : Int) : smallB x = true ↔ -1 ≤ x ∧ x ≤ 1 := by unfold smallB; simp only [Bool.and_eq_true, decide_eq_true_eq]
end Go.Proofs.Ytmlmpekhcnjehaa
