/- Slices of slices of numbers: what came in, the laws' own helpers on them. -/
import Derived.Test.YtbllmgdnhjdphacSig4
import Derived.Test.YtbllmgdnhjdphacRegFrame
import Derived.Test.YtbllmgdnhjdphacStrFrame
import Derived.Deep.Slices
import Derived.Deep.OwnRows
namespace Go.Proofs.Ytbllmgdnhjdphac
open Go.ChangeShapes Go.WideShapes Go.ChangeAt Go.RowKit Go.Joins
set_option linter.unusedVariables false
set_option maxRecDepth 100000
/-- A slice of L slices of numbers that can be read: the i-th has N i numbers, F i j. -/
def IIR (w : World) (v : Value) (L : Nat) (N : Nat → Nat) (F : Nat → Nat → Int) : Prop :=
  ∃ a cap, v = .slice a L cap ∧ L ≤ cap ∧ ∀ i, i < L → ∃ (x : Addr) (u : Value), a = some x ∧ x.block < w.heap.size ∧ w.cell? (x.add i) = some u ∧ IntsC w u (N i) (F i)
theorem IIR.below {w w' : World} {v : Value} {L : Nat} {N : Nat → Nat} {F : Nat → Nat → Int} (h : IIR w v L N F) (hb : Below w.heap.size w w') : IIR w' v L N F := by
  obtain ⟨a, cap, rfl, hl, hc⟩ := h
  refine ⟨a, cap, rfl, hl, fun i hi => ?_⟩
  obtain ⟨x, u, rfl, h1, h2, h3⟩ := hc i hi
  exact ⟨x, u, rfl, Nat.lt_of_lt_of_le h1 hb.size, (hb.cell (p := x.add i) (by rw [add_block]; exact h1)).trans h2, h3.below hb⟩
/-- A slice of n values of slices, of the call's own. -/
def XF (w : World) (B : Nat) (v : Value) (n : Nat) (f : Nat → Value) : Prop := w.ownsRow B 26 1 v n ((List.range n).map f)
theorem XF.below {w w' : World} {B : Nat} {v : Value} {n : Nat} {f : Nat → Value} (h : XF w B v n f) (hb : Below w.heap.size w w') : XF w' B v n f :=
  World.ownsRow.kept h (grown_of_below hb) (by cases v.ownBlock <;> simp)
theorem XF.at {w : World} {B g n cap : Nat} {f : Nat → Value} (h : XF w B (.slice (some ⟨g, 0, none⟩) n cap) n f) (i : Nat) (hi : i < n) : w.cell? ⟨g, i, none⟩ = some (f i) := by
  rw [World.ownsRow.cellAt h i (by omega), List.getElem?_map, List.getElem?_range hi]; rfl
theorem XF.free {w : World} {B g n cap : Nat} {f : Nat → Value} (h : XF w B (.slice (some ⟨g, 0, none⟩) n cap) n f) (j : Nat) : w.frozen? ⟨g, j, none⟩ = false := World.ownsRow.frozenAt h j
theorem XF.set {w : World} {B g cap n : Nat} {f : Nat → Value} (h : XF w B (.slice (some ⟨g, 0, none⟩) n cap) n f) (k : Nat) (y : Value) (hk : k < n) : XF (w.setCell ⟨g, k, none⟩ y) B (.slice (some ⟨g, 0, none⟩) n cap) n (fun i => if i = k then y else f i) ∧ w.grownBy (w.setCell ⟨g, k, none⟩ y) (some g) := by
  have := World.ownsRow.stored h k y
  refine ⟨?_, this.2⟩
  have e : ((List.range n).map f).set k y = (List.range n).map fun i => if i = k then y else f i := by
    apply List.ext_getElem?
    intro t
    by_cases ht : t < n
    · rw [List.getElem?_set]
      by_cases q : k = t
      · subst q; simp [ht]
      · rw [if_neg q, List.getElem?_map, List.getElem?_map, List.getElem?_range ht]; simp [show ¬ t = k from fun x => q x.symm]
    · rw [List.getElem?_eq_none (by simp; omega), List.getElem?_eq_none (by simp; omega)]
  unfold XF
  rw [← e]; exact this.1
theorem XF.made (w : World) (n : Nat) (hm : n ≤ 1048576) : XF (w.alloc (.cells (madeCells #[.slice none 0 0] n) 26)) w.heap.size (.slice (some ⟨w.heap.size, 0, none⟩) n n) n (fun _ => .slice none 0 0) := by
  have hs : (madeCells #[Value.slice none 0 0] n).size = n := by simp [madeCells]
  refine ⟨by simp, .inr ⟨w.heap.size, n, madeCells #[.slice none 0 0] n, rfl, Nat.le_refl _, ?_, Nat.le_refl _, by unfold maxLen; omega, by rw [hs]; omega, ?_⟩⟩
  · show (w.heap.push _)[w.heap.size]? = _
    simp
  · apply List.ext_getElem?
    intro j
    by_cases hj : j < n
    · simp [madeCells, hj, Nat.mod_one]
    · simp [hj, hs]
theorem make_intss (n : Nat) (h : n ≤ 1048576) (w : World) :
    (Instr.makeSlice 23 (.int .i64 (n : Int)) (.int .i64 (n : Int))).run Try.prog w = .ok (.slice (some ⟨w.heap.size, 0, none⟩) n n) (w.alloc (.cells (madeCells #[.slice none 0 0] n) 26)) :=
  run_make_row' (P := Try.prog) 23 26 (.slice none 0 0) 24 (by kernel_rfl) (by kernel_rfl) rfl .i64 .i64 n (by omega) (by omega) w
theorem OF.aSlice {w : World} {B : Nat} {v : Value} {n : Nat} {f : Nat → Int} (h : OF w B v n f) : ∃ a cap, v = .slice a n cap := by
  obtain ⟨a, cap, e, _⟩ := h.form
  exact ⟨a, cap, e⟩
end Go.Proofs.Ytbllmgdnhjdphac
