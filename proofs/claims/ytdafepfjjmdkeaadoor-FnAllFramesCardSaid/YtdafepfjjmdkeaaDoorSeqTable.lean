/- Contracts of CrossTable, of both sides. -/
import Derived.Test.YtdafepfjjmdkeaaDoorSeqFun
import Derived.Test.YtdafepfjjmdkeaaDoorInts
import Derived.WalkLawsBesides
namespace Go.Proofs.YtdafepfjjmdkeaaDoor
open Go.RowKit
set_option linter.unusedVariables false
theorem OF.at {w : World} {B g n cap : Nat} {f : Nat → Int} (h : OF w B (.slice (some ⟨g, 0, none⟩) n cap) n f) (i : Nat) (hi : i < n) : w.cell? ⟨g, i, none⟩ = some (.int .i64 (f i)) ∧ w.frozen? ⟨g, i, none⟩ = false := by
  obtain ⟨a', cap', hf1, hf2⟩ := h.form
  obtain ⟨g', rfl, _, _, hc⟩ := hf2 (by omega)
  injection hf1 with e1
  injection e1 with e1
  injection e1 with e1
  subst e1
  exact hc i hi
theorem OF.empty (w : World) (f : Nat → Int) : OF (w.alloc (.cells #[] 3)) w.heap.size (.slice (some ⟨w.heap.size, 0, none⟩) 0 0) 0 f := by
  refine ⟨by simp, .inr ⟨w.heap.size, 0, #[], rfl, Nat.le_refl _, ?_, Nat.le_refl _, by unfold maxLen; omega, rfl, rfl⟩⟩
  show (w.heap.push _)[w.heap.size]? = _
  simp
theorem OF.made (w : World) (n : Nat) (hm : n ≤ 1000000) : OF (w.alloc (.cells (madeCells #[.int .i64 0] n) 3)) w.heap.size (.slice (some ⟨w.heap.size, 0, none⟩) n n) n (fun _ => 0) := by
  have hs : (madeCells #[Value.int .i64 0] n).size = n := by simp [madeCells]
  refine ⟨by simp, .inr ⟨w.heap.size, n, madeCells #[.int .i64 0] n, rfl, Nat.le_refl _, ?_, Nat.le_refl _, by unfold maxLen; omega, by rw [hs]; omega, ?_⟩⟩
  · show (w.heap.push _)[w.heap.size]? = _
    simp
  · apply List.ext_getElem?
    intro j
    by_cases hj : j < n
    · simp [madeCells, hj, Nat.mod_one]
    · simp [hj, hs]
theorem make_ints (n : Nat) (h : n ≤ 1000000) (w : World) :
    (Instr.makeSlice 53 (.int .i64 (n : Int)) (.int .i64 (n : Int))).run Tryd.prog w = .ok (.slice (some ⟨w.heap.size, 0, none⟩) n n) (w.alloc (.cells (madeCells #[.int .i64 0] n) 3)) :=
  run_make_row' (P := Tryd.prog) 53 3 (.int .i64 0) 8 (by kernel_rfl) (by kernel_rfl) rfl .i64 .i64 n (by omega) (by omega) w
theorem ints_info : (Tryd.prog.info? 3).map (fun i => (i.zero, i.size, i.bytes)) = some (some (.int .i64 0), 1, 8) := by kernel_rfl
theorem wpList_append_int {w : World} {ops : Array Oper} {rest : List Oper} {o : Oper} {a : Act} {Q : Exit → Act → World → Prop} (hgd : o.guard = none) (s x : Operand)
    (ho : o.op = .call { callee := .builtin .append, args := #[s, x], argTypes := #[53, 53] }) (B : Nat) (v : Value) (n : Nat) (f : Nat → Int) (hs : a.eval s = v) (hown : OF w B v n f)
    (ad c : Nat) (y : Int) (hx : a.eval x = .slice (some ⟨ad, 0, none⟩) 1 c) (hc : w.cell? ⟨ad, 0, none⟩ = some (.int .i64 y)) (hn : n ≤ 1000000) (hB : B ≤ w.heap.size)
    (h : ∀ v' w', OF w' B v' (n + 1) (fun j => if j < n then f j else y) → w.grownBy w' v.ownBlock → wpList Tryd.prog ops Q rest (a.put o.dst v') w') : wpList Tryd.prog ops Q (o :: rest) a w := by
  obtain ⟨i0, hi, hzz⟩ := Option.map_eq_some_iff.1 ints_info
  simp only [Prod.mk.injEq] at hzz
  obtain ⟨hz, hsz, hby⟩ := hzz
  refine wpList_append_own w hgd s x 53 ho B 3 i0 (.int .i64 0) 1 8 (by kernel_rfl) hi hz hsz hby rfl (by decide) v n _ hs hown ⟨ad, 0, none⟩ 1 c [.int .i64 y] hx rfl ?_ ?_ ?_ ?_ hB ?_
  · intro j u hj
    cases j with
    | zero => simp at hj; subst hj; exact hc
    | succ j => simp at hj
  · intro u hu; simp at hu; subst hu; rfl
  · unfold maxLen; omega
  · omega
  · intro v' w' h1 h2 _
    refine h v' w' ?_ h2
    unfold OF
    have e : ((List.range (n + 1)).map fun j => Value.int .i64 (if j < n then f j else y)) = ((List.range n).map fun j => Value.int .i64 (f j)) ++ [.int .i64 y] := by
      have e1 : (List.range n).map (fun j => Value.int .i64 (if j < n then f j else y)) = (List.range n).map (fun j => Value.int .i64 (f j)) := List.map_congr_left fun j hj => by rw [if_pos (List.mem_range.1 hj)]
      rw [List.range_succ, List.map_append, e1, List.map_cons, List.map_nil, if_neg (Nat.lt_irrefl n)]
    rw [e]; exact h1
/-- How many correlations CrossTable answers. -/
def tabN (a b : ByteArray) : Nat := if pairB a b then a.size else 0
theorem tabN_le (a b : ByteArray) : tabN a b ≤ 255 := by
  unfold tabN
  split
  · have := size_le ((pairB_iff a b).1 (by assumption)).1; omega
  · omega
theorem tabN_le6 (a b : ByteArray) : tabN a b ≤ 1000000 := Nat.le_trans (tabN_le a b) (by omega)
def tabF (a b : ByteArray) : Nat → Int := fun k => crossN a b k
end Go.Proofs.YtdafepfjjmdkeaaDoor
