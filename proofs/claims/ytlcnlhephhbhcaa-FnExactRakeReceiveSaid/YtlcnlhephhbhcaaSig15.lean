/- MarginOf of both sides. -/
import Derived.Test.YtlcnlhephhbhcaaSig9
namespace Go.Proofs.Ytlcnlhephhbhcaa
open Go.RowKit
set_option linter.unusedVariables false
set_option maxRecDepth 100000
theorem str_some {z : ByteArray} (h : 0 < z.size) : z.toList.isEmpty = false := by
  rw [ByteArray.toList_eq]
  have h' : 0 < z.data.toList.length := h
  cases e : z.data.toList with
  | nil => rw [e] at h'; exact absurd h' (by decide)
  | cons a l => rfl
/-- The least of the first k numbers (0 of none). -/
def mnI (f : Nat → Int) : Nat → Int
  | 0 => 0
  | 1 => f 0
  | k + 2 => min (mnI f (k + 1)) (f (k + 1))
theorem mnI_one (f : Nat → Int) : mnI f 1 = f 0 := rfl
theorem mnI_succ (f : Nat → Int) (k : Nat) (h : 0 < k) : mnI f (k + 1) = min (mnI f k) (f k) := by
  obtain ⟨q, rfl⟩ : ∃ q, k = q + 1 := ⟨k - 1, by omega⟩
  rfl
theorem mnI_congr {f g : Nat → Int} : ∀ n, (∀ i, i < n → f i = g i) → mnI f n = mnI g n
  | 0, _ => rfl
  | 1, h => h 0 (by omega)
  | k + 2, h => by
    rw [mnI_succ f (k + 1) (by omega), mnI_succ g (k + 1) (by omega), mnI_congr (k + 1) (fun i hi => h i (by omega)), h (k + 1) (by omega)]
/-- The margins of data. -/
def mgF (n : Nat) (f : Nat → Int) (q : ByteArray) (d : Nat) (p : ByteArray) (i : Nat) : Int := coL n f q d i * chF p i
def mgOK (n : Nat) (f : Nat → Int) (q : ByteArray) (d : Int) (p : ByteArray) : Bool := bitsB p && (decide (0 < p.size) && rcB n f q d p.size)
def mgAns (n : Nat) (f : Nat → Int) (q : ByteArray) (d : Int) (p : ByteArray) : Int × Bool := if mgOK n f q d p then (mnI (mgF n f q d.toNat p) p.size, true) else noI
theorem mg_no {n : Nat} {f : Nat → Int} {q : ByteArray} {d : Int} {p : ByteArray} (h : ¬ (bitsB p = true ∧ 0 < p.size ∧ rcB n f q d p.size = true)) : mgAns n f q d p = noI := by
  unfold mgAns mgOK
  rw [if_neg]
  intro e
  simp only [Bool.and_eq_true, decide_eq_true_eq] at e
  exact h e
theorem mg_yes {n : Nat} {f : Nat → Int} {q : ByteArray} {d : Nat} {p : ByteArray} (h1 : bitsB p = true) (h2 : 0 < p.size) (h3 : rcB n f q d p.size = true) : mgAns n f q d p = (mnI (mgF n f q d p) p.size, true) := by
  unfold mgAns mgOK
  rw [h1, h3, decide_eq_true h2]
  rfl
theorem coL_bd {n : Nat} {f : Nat → Int} {q : ByteArray} (hs : sigB n f = true) (hq : seqB q = true) (d i : Nat) : -300000000 ≤ coL n f q d i ∧ coL n f q d i ≤ 300000000 := by
  obtain ⟨hA, h3⟩ := (sigB_iff _ _).1 hs
  obtain ⟨q0, q1, q2⟩ := (seqB_iff q).1 hq
  unfold coL coF
  by_cases h : n - (d + i * q.size) = 0
  · rw [h, Nat.min_zero]
    simp [coR, sumI]
  · have := coR_bd hA q0 (d + i * q.size) (min q.size (n - (d + i * q.size))) (by omega) (by omega)
    have h5 : ((min q.size (n - (d + i * q.size)) : Nat) : Int) ≤ 255 := by omega
    omega
theorem mg_prod {x c : Int} (h1 : -300000000 ≤ x) (h2 : x ≤ 300000000) (hc : c = 1 ∨ c = -1) : -300000000 ≤ x * c ∧ x * c ≤ 300000000 := by
  rcases hc with rfl | rfl
  · rw [Int.mul_one]; exact ⟨h1, h2⟩
  · rw [Int.mul_neg, Int.mul_one]; omega
end Go.Proofs.Ytlcnlhephhbhcaa
