/- WorstCross of both sides, and the walk of its exact law. -/
import Derived.Test.YtjnipbopimpggabFamFree2
import Derived.Test.YtjnipbopimpggabGrt
import Derived.Test.YtjnipbopimpggabStrFrame
import Derived.Test.YtjnipbopimpggabIntsBig
import Derived.Test.YtjnipbopimpggabSeqFun
import Derived.Deep.RegionHeld3
namespace Go.Proofs.Ytjnipbopimpggab
open Go.RowKit
set_option linter.unusedVariables false
def allP (n : Nat) (f : Nat → ByteArray) : Bool := (List.range n).all fun j => pairB (f j) (f 0)
theorem allP_succ (n : Nat) (f : Nat → ByteArray) : allP (n + 1) f = (allP n f && pairB (f n) (f 0)) := by unfold allP; rw [List.range_succ, List.all_append]; simp
theorem allP_bad {n k : Nat} {f : Nat → ByteArray} (hk : k < n) (h : pairB (f k) (f 0) = false) : allP n f = false := by
  unfold allP
  rw [List.all_eq_false]
  exact ⟨k, List.mem_range.2 hk, by rw [h]; simp⟩
theorem allP_at {n k : Nat} {f : Nat → ByteArray} (h : allP n f = true) (hk : k < n) : pairB (f k) (f 0) = true := by
  unfold allP at h
  exact List.all_eq_true.1 h k (List.mem_range.2 hk)
def famB (n : Nat) (f : Nat → ByteArray) : Bool := decide (1 ≤ n) && (decide (n ≤ 70) && allP n f)
theorem SF.put {w : World} {B : Nat} {v : Value} {n : Nat} {f : Nat → ByteArray} (h : SF w B v n f) : ∃ a cap, v = .slice a n cap ∧ ∀ i, i < n → ∃ g, a = some ⟨g, 0, none⟩ ∧ g < w.heap.size ∧ w.cell? ⟨g, i, none⟩ = some (.string (f i)) := by
  obtain ⟨a, cap, rfl, ha⟩ := h.form
  exact ⟨a, cap, rfl, fun i hi => by obtain ⟨g, e, _, h2, h3⟩ := ha (by omega); exact ⟨g, e, h2, (h3 i hi).1⟩⟩
theorem pair_of {a b c : ByteArray} (h1 : pairB a c = true) (h2 : pairB b c = true) : pairB a b = true := by
  obtain ⟨a1, a2, a3⟩ := (pairB_iff a c).1 h1
  obtain ⟨b1, b2, b3⟩ := (pairB_iff b c).1 h2
  exact (pairB_iff a b).2 ⟨a1, b1, by omega⟩
/-- A correlation that counts; the greatest of a pair, of a row, and of all. -/
def ecr (f : Nat → ByteArray) (i k s : Nat) : Int := if i = k ∧ s = 0 then 0 else crossN (f i) (f k) s
def grW (f : Nat → ByteArray) (L i k : Nat) : Int := mxA 0 (ecr f i k) L
def rowW (f : Nat → ByteArray) (L : Nat) (acc : Int) (i : Nat) : Nat → Int
  | 0 => acc
  | d + 1 => max (rowW f L acc i d) (grW f L i (i + d))
def allW (f : Nat → ByteArray) (L n : Nat) : Nat → Int
  | 0 => 0
  | i + 1 => rowW f L (allW f L n i) i (n - i)
def worstAns (n : Nat) (f : Nat → ByteArray) : Int := if famB n f then allW f (f 0).size n n else -1
theorem grW_nonneg (f : Nat → ByteArray) (L i k : Nat) : 0 ≤ grW f L i k := mxA_le 0 _ L
theorem rowW_le (f : Nat → ByteArray) (L : Nat) (acc : Int) (i : Nat) : ∀ d, acc ≤ rowW f L acc i d
  | 0 => Int.le_refl _
  | d + 1 => by have := rowW_le f L acc i d; simp only [rowW]; omega
theorem allW_nonneg (f : Nat → ByteArray) (L n : Nat) : ∀ i, 0 ≤ allW f L n i
  | 0 => Int.le_refl _
  | i + 1 => by have := allW_nonneg f L n i; have := rowW_le f L (allW f L n i) i (n - i); simp only [allW]; omega
theorem grW_same (f : Nat → ByteArray) (L i : Nat) : grW f (L + 1) i i = mxA 0 (fun j => crossN (f i) (f i) (1 + j)) L := by
  unfold grW
  rw [mxA_tail _ (by unfold ecr; rw [if_pos ⟨rfl, rfl⟩])]
  exact mxA_congr L fun j _ => by unfold ecr; rw [if_neg (by omega)]
theorem grW_else (f : Nat → ByteArray) (L i k : Nat) (h : i ≠ k) : grW f L i k = mxA 0 (fun j => crossN (f i) (f k) j) L :=
  mxA_congr L fun j _ => by unfold ecr; rw [if_neg (by omega)]
theorem addr_add (g o i : Nat) : (⟨g, o, none⟩ : Addr).add i = ⟨g, o + i, none⟩ := by unfold Addr.add; split <;> simp_all
theorem int_elem (w : World) : (sizeOf (Try.prog.elem 47)).run Try.prog w = .ok 1 w := by kernel_rfl
theorem str_elem (w : World) : (sizeOf (Try.prog.elem 42)).run Try.prog w = .ok 1 w := by kernel_rfl
theorem tail_ints {w : World} {B : Nat} {v : Value} {n : Nat} {f : Nat → Int} (h : OF w B v n f) (l : Nat) (hl : l ≤ n) : ∃ a' cap', (∀ w1, (Instr.sliceAt 47 v (some (.int .i64 (l : Int))) none none).run Try.prog w1 = .ok (.slice a' (n - l) cap') w1) ∧
    ∀ i, i < n - l → ∃ x : Addr, a' = some x ∧ x.block < w.heap.size ∧ w.cell? (x.add i) = some (.int .i64 (f (l + i))) := by
  have hc := h.form
  obtain ⟨h1, ⟨rfl, rfl⟩ | ⟨g, cap, cur, rfl, hB, hg, hn, hm, hs, ht⟩⟩ := h
  · obtain rfl : l = 0 := by omega
    exact ⟨_, _, fun w1 => by rw [run_sliceAt_slice w1 47 _ _ _ _ (by kernel_rfl), run_slice_l w1 47 none 0 0 (by kernel_rfl) .i64 _ (by omega) (by omega), int_elem]; rfl, fun i hi => absurd hi (Nat.not_lt_zero i)⟩
  · refine ⟨if cap = l then some ⟨g, 0, none⟩ else some ⟨g, l, none⟩, cap - l, fun w1 => ?_, fun i hi => ?_⟩
    · rw [run_sliceAt_slice w1 47 _ _ _ _ (by kernel_rfl), run_slice_l w1 47 _ n cap (by kernel_rfl) .i64 _ (by omega) (by omega), int_elem]
      simp [Result.andThen, sliced, addr_add]
    · obtain ⟨a', cap', hf1, hf2⟩ := hc
      obtain ⟨g', rfl, _, hgl, hcc⟩ := hf2 (by omega)
      injection hf1 with e1
      injection e1 with e1
      injection e1 with e1
      subst e1
      refine ⟨⟨g, l, none⟩, by rw [if_neg (by omega)], hgl, ?_⟩
      have := (hcc (l + i) (by omega)).1
      rw [addr_add]; exact this
theorem tail_strs {w : World} {B : Nat} {v : Value} {n : Nat} {f : Nat → ByteArray} (h : SF w B v n f) (l : Nat) (hl : l ≤ n) : ∃ a' cap', (∀ w1, (Instr.sliceAt 42 v (some (.int .i64 (l : Int))) none none).run Try.prog w1 = .ok (.slice a' (n - l) cap') w1) ∧
    ∀ i, i < n - l → ∃ x : Addr, a' = some x ∧ x.block < w.heap.size ∧ w.cell? (x.add i) = some (.string (f (l + i))) := by
  have hc := h.form
  obtain ⟨h1, ⟨rfl, rfl⟩ | ⟨g, cap, cur, rfl, hB, hg, hn, hm, hs, ht⟩⟩ := h
  · obtain rfl : l = 0 := by omega
    exact ⟨_, _, fun w1 => by rw [run_sliceAt_slice w1 42 _ _ _ _ (by kernel_rfl), run_slice_l w1 42 none 0 0 (by kernel_rfl) .i64 _ (by omega) (by omega), str_elem]; rfl, fun i hi => absurd hi (Nat.not_lt_zero i)⟩
  · refine ⟨if cap = l then some ⟨g, 0, none⟩ else some ⟨g, l, none⟩, cap - l, fun w1 => ?_, fun i hi => ?_⟩
    · rw [run_sliceAt_slice w1 42 _ _ _ _ (by kernel_rfl), run_slice_l w1 42 _ n cap (by kernel_rfl) .i64 _ (by omega) (by omega), str_elem]
      simp [Result.andThen, sliced, addr_add]
    · obtain ⟨a', cap', hf1, hf2⟩ := hc
      obtain ⟨g', rfl, _, hgl, hcc⟩ := hf2 (by omega)
      injection hf1 with e1
      injection e1 with e1
      injection e1 with e1
      subst e1
      refine ⟨⟨g, l, none⟩, by rw [if_neg (by omega)], hgl, ?_⟩
      have := (hcc (l + i) (by omega)).1
      rw [addr_add]; exact this
end Go.Proofs.Ytjnipbopimpggab
