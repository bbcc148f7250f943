/- A slice of bools of the call's own; what the law FnMaximalBits asks. -/
import Derived.Test.YtkkakfkebjdkeaaMaxUse
import Derived.Test.YtkkakfkebjdkeaaShortMath
namespace Go.Proofs.Ytkkakfkebjdkeaa
open Go.RowKit
set_option linter.unusedVariables false
set_option maxRecDepth 100000
def BoolRow (w : World) (g m : Nat) (f : Nat → Bool) : Prop := (∀ v, v < m → w.cell? ⟨g, v, none⟩ = some (.bool (f v))) ∧ (∀ o, w.frozen? ⟨g, o, none⟩ = false) ∧ g < w.heap.size
theorem make_bools (n : Nat) (h : n ≤ 1048576) (w : World) :
    (Instr.makeSlice 63 (.int .i64 (n : Int)) (.int .i64 (n : Int))).run Try.prog w = .ok (.slice (some ⟨w.heap.size, 0, none⟩) n n) (w.alloc (.cells (madeCells #[.bool false] n) 4)) :=
  run_make_row' (P := Try.prog) 63 4 (.bool false) 1 (by kernel_rfl) (by kernel_rfl) rfl .i64 .i64 n (by omega) (by omega) w
theorem BoolRow.new (w : World) (m : Nat) : BoolRow (w.alloc (.cells (madeCells #[.bool false] m) 4)) w.heap.size m (fun _ => false) := by
  refine ⟨fun v hv => ?_, fun o => by simp, by simp⟩
  have : (madeCells #[Value.bool false] m)[v]? = some (.bool false) := by simp [madeCells, hv, Nat.mod_one]
  generalize madeCells #[Value.bool false] m = A at this
  simp [this]
theorem BoolRow.below {w w' : World} {g m : Nat} {f : Nat → Bool} (h : BoolRow w g m f) (hb : Below w.heap.size w w') : BoolRow w' g m f :=
  ⟨fun v hv => (hb.cell (p := ⟨g, v, none⟩) h.2.2).trans (h.1 v hv), fun o => (hb.frozen (p := ⟨g, o, none⟩) h.2.2).trans (h.2.1 o), Nat.lt_of_lt_of_le h.2.2 hb.size⟩
theorem BoolRow.set {w : World} {g m : Nat} {f f' : Nat → Bool} (h : BoolRow w g m f) (y : Nat) (b : Bool) (hf : ∀ v, v < m → f' v = if v = y then b else f v) (hy : y < m) : BoolRow (w.setCell ⟨g, y, none⟩ (.bool b)) g m f' := by
  obtain ⟨h1, h2, h3⟩ := h
  refine ⟨fun v hv => ?_, fun o => by rw [World.frozen?_setCell]; exact h2 o, by simp; omega⟩
  rw [hf v hv]
  by_cases e : v = y
  · subst e
    rw [if_pos rfl]
    exact World.cell?_setCell_same _ _ _ (h1 v hv)
  · rw [if_neg e, ← h1 v hv]
    exact World.cell?_setCell_other _ _ _ _ (by intro e'; injection e' with _ e'; exact e e'.symm)
/-- Was a value among the first states? -/
def metB (x : Nat → Nat) : Nat → Nat → Bool
  | 0, _ => false
  | k + 1, v => if v = x k then true else metB x k v
theorem metB_no {x : Nat → Nat} {v : Nat} : ∀ k, (∀ i, i < k → x i ≠ v) → metB x k v = false
  | 0, _ => rfl
  | k + 1, h => by simp only [metB]; rw [if_neg (fun e => h k (by omega) e.symm)]; exact metB_no k (fun i hi => h i (by omega))
theorem ext_val {s t x n i : Nat} (h : RegN s t x) (hi : i + s ≤ n) : valN ((runS s t x n).extract i (i + s)).data.toList = stepsN s t i x ∧ ((runS s t x n).extract i (i + s)).size = s ∧ bitsB ((runS s t x n).extract i (i + s)) = true := by
  have hsz : ((runS s t x n).extract i (i + s)).size = s := by rw [size_extract _ _ _ (by rw [runS_size]; exact hi)]; omega
  have e : (runS s t x n).extract i (i + s) = runS s t (stepsN s t i x) s := by
    refine ba_ext (by rw [hsz, runS_size]) fun j hj => ?_
    rw [hsz] at hj
    rw [zb_extract _ _ _ _ (by rw [runS_size]; exact hi) (by omega), zb_run (by omega), zb_run hj, ← steps_add, Nat.add_comm j i]
  have hR := h.steps i
  rw [e]
  have hs8 := h.hi
  have hz := runS_size s t (stepsN s t i x) s
  refine ⟨?_, hz, ?_⟩
  · have := valX_run hR (Nat.le_refl s)
    unfold valX at this
    rw [List.take_of_length_le (by show (runS s t (stepsN s t i x) s).size ≤ s; omega)] at this
    exact this
  · unfold bitsB
    rw [okB_run, decide_eq_true (by omega)]; rfl
end Go.Proofs.Ytkkakfkebjdkeaa
