/- CutSignal and DelaySignal of both sides. -/
import Derived.Test.YtagdfohjhokgiaaSig5
namespace Go.Proofs.Ytagdfohjhokgiaa
open Go.RowKit
set_option linter.unusedVariables false
set_option maxRecDepth 100000
/-- A slice of a call's own, whoever made it. -/
def IntsO (w : World) (v : Value) (n : Nat) (f : Nat → Int) : Prop := ∃ B, OF w B v n f
theorem OF.own {w : World} {B : Nat} {v : Value} {n : Nat} {f : Nat → Int} (h : OF w B v n f) : IntsO w v n f := ⟨B, h⟩
theorem IntsO.intsC {w : World} {v : Value} {n : Nat} {f : Nat → Int} (h : IntsO w v n f) : IntsC w v n f := by obtain ⟨B, h⟩ := h; exact h.intsC
theorem IntsO.ints {w : World} {v : Value} {n : Nat} {f : Nat → Int} (h : IntsO w v n f) : IntsR w v n f := h.intsC.ints
theorem IntsO.below {w w' : World} {v : Value} {n : Nat} {f : Nat → Int} (h : IntsO w v n f) (hb : Below w.heap.size w w') : IntsO w' v n f := by obtain ⟨B, h⟩ := h; exact ⟨B, h.below hb⟩
theorem IntsO.tail0 {w : World} {v : Value} {n : Nat} {f : Nat → Int} (h : IntsO w v n f) : v = .slice none 0 0 ∨ ∃ x c, v = .slice (some x) n c := by obtain ⟨B, h⟩ := h; exact h.tail0
theorem cutO {w : World} {v : Value} {n : Nat} {f : Nat → Int} (h : IntsO w v n f) (l m : Nat) (hl : l ≤ m) (hm : m ≤ n) : ∃ a' cap', (∀ w1, (Instr.sliceAt 28 v (some (.int .i64 (l : Int))) (some (.int .i64 (m : Int))) none).run Try.prog w1 = .ok (.slice a' (m - l) cap') w1) ∧
    IntsC w (.slice a' (m - l) cap') (m - l) (fun i => f (l + i)) ∧ (Value.slice a' (m - l) cap' = .slice none 0 0 ∨ ∃ x c, Value.slice a' (m - l) cap' = .slice (some x) (m - l) c) := by
  have ht := h.tail0
  obtain ⟨a, cap, rfl, hcap, hc⟩ := h.intsC
  refine ⟨if cap = l then a else a.map (·.add (l * 1)), cap - l, fun w1 => ?_, ?_, ?_⟩
  · rw [run_sliceAt_slice w1 28 _ _ _ _ (by kernel_rfl), run_slice_lh w1 28 a n cap (by kernel_rfl) .i64 .i64 _ _ (by omega) (by omega) (by omega), ints_elem]
    simp [Result.andThen, sliced]
  · refine ⟨_, _, rfl, by omega, fun i hi => ?_⟩
    obtain ⟨x, rfl, h1, h2⟩ := hc (l + i) (by omega)
    refine ⟨x.add l, by rw [if_neg (by omega)]; simp, by rw [add_block]; exact h1, ?_⟩
    rw [addr_plus]; exact h2
  · rcases ht with e | ⟨x, c, e⟩
    · injection e with e1 e2 e3
      subst e1 e2 e3
      left
      have : m = 0 := by omega
      subst this
      have : l = 0 := by omega
      subst this
      simp
    · injection e with e1 e2 e3
      subst e1
      right
      by_cases hcl : cap = l
      · exact ⟨x, cap - l, by rw [if_pos hcl]⟩
      · exact ⟨x.add (l * 1), cap - l, by rw [if_neg hcl]; rfl⟩
theorem cut_row (g N k : Nat) (hk : k ≤ N) : ∃ a' cap', (∀ w1, (Instr.sliceAt 28 (.slice (some ⟨g, 0, none⟩) N N) (some (.int .i64 (k : Int))) none none).run Try.prog w1 = .ok (.slice a' (N - k) cap') w1) ∧ (0 < N - k → a' = some ⟨g, k, none⟩) := by
  refine ⟨if N = k then some ⟨g, 0, none⟩ else (some (⟨g, 0, none⟩ : Addr)).map (·.add (k * 1)), N - k, fun w1 => ?_, fun h => ?_⟩
  · rw [run_sliceAt_slice w1 28 _ _ _ _ (by kernel_rfl), run_slice_l w1 28 _ N N (by kernel_rfl) .i64 _ (by omega) (by omega), ints_elem]
    simp [Result.andThen, sliced]
  · rw [if_neg (by omega)]
    have e : (⟨g, 0, none⟩ : Addr).add k = ⟨g, k, none⟩ := by unfold Addr.add; split <;> simp_all
    simp [e]
theorem OF.of_row {w : World} {B g n : Nat} {f : Nat → Int} {l : List Value} (h : w.heap[g]? = some (.cells l.toArray 3 (0, 0))) (hB : B ≤ g) (hl : l = (List.range n).map fun j => .int .i64 (f j)) (hn : n ≤ 1000000) : OF w B (.slice (some ⟨g, 0, none⟩) n n) n f := by
  subst hl
  refine ⟨by simp, .inr ⟨g, n, _, rfl, hB, h, Nat.le_refl _, by unfold maxLen; omega, by simp, ?_⟩⟩
  rw [Nat.mul_one]
  exact List.take_of_length_le (by simp)
theorem made_row (w : World) (n : Nat) : (w.alloc (.cells (madeCells #[.int .i64 0] n) 3)).heap[w.heap.size]? = some (.cells (List.replicate n (.int .i64 0)).toArray 3 (0, 0)) := by
  have e : madeCells #[Value.int .i64 0] n = (List.replicate n (Value.int .i64 0)).toArray := by
    apply Array.ext
    · simp [madeCells]
    · intro i h1 h2
      simp [madeCells, Nat.mod_one]
  rw [← e]
  show (w.heap.push _)[w.heap.size]? = _
  simp
theorem int_size : (Try.prog.info? 3).map (·.size) = some 1 := by kernel_rfl
/-- Delayed samples. -/
def dlF (k : Nat) (f : Nat → Int) (i : Nat) : Int := if i < k then 0 else f (i - k)
theorem dl_splice (k n : Nat) (f : Nat → Int) : splice (List.replicate (k + n) (Value.int .i64 0)) k ((List.range n).map fun i => Value.int .i64 (f i)) = (List.range (k + n)).map fun j => Value.int .i64 (dlF k f j) := by
  unfold splice
  apply List.ext_getElem (by simp)
  intro j h1 h2
  simp at h2
  by_cases hj : j < k
  · rw [List.getElem_append_left (by simp; omega)]
    simp [dlF, hj]
  · rw [List.getElem_append_right (by simp; omega)]
    rw [List.getElem_append_left (by simp; omega)]
    have e : min k (k + n) = k := by omega
    simp [dlF, hj, e]
def inK (k : Int) : Bool := decide (0 ≤ k) && decide (k ≤ 3000)
theorem inK_iff (k : Int) : inK k = true ↔ 0 ≤ k ∧ k ≤ 3000 := by unfold inK; simp only [Bool.and_eq_true, decide_eq_true_eq]
theorem dl_all {n : Nat} {f : Nat → Int} (h : allM n f = true) (k : Nat) : allM (k + n) (dlF k f) = true := allM_of fun j hj => by
  unfold dlF
  split
  · omega
  · exact allM_at h (by omega)
def dlOK (n : Nat) (f : Nat → Int) (k : Int) : Bool := sigB n f && (inK k && sigB (k.toNat + n) (dlF k.toNat f))
def dlN (n : Nat) (f : Nat → Int) (k : Int) : Nat := if dlOK n f k then k.toNat + n else 0
theorem dlN_le6 (n : Nat) (f : Nat → Int) (k : Int) : dlN n f k ≤ 1000000 := by
  unfold dlN dlOK
  split
  · rename_i h
    simp only [Bool.and_eq_true] at h
    have := ((sigB_iff _ _).1 h.2.2).2
    omega
  · omega
theorem dl_in {n : Nat} {f : Nat → Int} {k : Nat} (h1 : sigB n f = true) (h2 : inK k = true) : dlN n f k = resN (k + n) (dlF k f) ∧ dlOK n f k = sigB (k + n) (dlF k f) := by
  unfold dlN dlOK resN; rw [h1, h2]; simp
theorem dl_out {n : Nat} {f : Nat → Int} {k : Int} (h : ¬ (sigB n f = true ∧ inK k = true)) : dlN n f k = 0 ∧ dlOK n f k = false := by
  have : dlOK n f k = false := by
    unfold dlOK
    cases h1 : sigB n f with
    | false => rfl
    | true =>
      cases h2 : inK k with
      | false => rfl
      | true => exact absurd ⟨h1, h2⟩ h
  exact ⟨by unfold dlN; rw [this]; rfl, this⟩
end Go.Proofs.Ytagdfohjhokgiaa
