/- Slices of strings: read by index (Strs), of a call's own (SF); the laws' own helpers on them. -/
import Derived.Test.YtbkppjelljljcaaInts
import Derived.Test.YtbkppjelljljcaaSeqTurn
import Derived.WalkLawsBesides
namespace Go.Proofs.Ytbkppjelljljcaa
open Go.RowKit
set_option linter.unusedVariables false
/-- A slice of n strings of the call's own: element j is f j. -/
def SF (w : World) (B : Nat) (v : Value) (n : Nat) (f : Nat → ByteArray) : Prop := w.ownsRow B 9 1 v n ((List.range n).map fun j => Value.string (f j))
theorem SF.congr {w : World} {B : Nat} {v : Value} {n : Nat} {f g : Nat → ByteArray} (h : SF w B v n f) (e : ∀ j, j < n → f j = g j) : SF w B v n g := by
  have : ((List.range n).map fun j => Value.string (f j)) = (List.range n).map fun j => Value.string (g j) := List.map_congr_left fun j hj => by rw [e j (List.mem_range.1 hj)]
  unfold SF at h ⊢
  rw [← this]; exact h
theorem SF.nil (w : World) (B : Nat) (f : Nat → ByteArray) : SF w B (.slice none 0 0) 0 f := World.ownsRow_nil w B _ 1
theorem SF.form {w : World} {B : Nat} {v : Value} {n : Nat} {f : Nat → ByteArray} (h : SF w B v n f) : ∃ a cap, v = .slice a n cap ∧ (0 < n → ∃ g, a = some ⟨g, 0, none⟩ ∧ B ≤ g ∧ g < w.heap.size ∧
    ∀ i, i < n → w.cell? ⟨g, i, none⟩ = some (.string (f i)) ∧ w.frozen? ⟨g, i, none⟩ = false) := by
  have hc := fun g hg => World.ownsRow.cells h (g := g) hg
  obtain ⟨h1, ⟨rfl, rfl⟩ | ⟨g, cap, cur, rfl, hB, hg, hn, hm, hs, ht⟩⟩ := h
  · exact ⟨none, 0, rfl, fun h => absurd h (Nat.lt_irrefl 0)⟩
  · refine ⟨_, cap, rfl, fun _ => ⟨g, rfl, hB, (Array.getElem?_eq_some_iff.1 hg).1, fun i hi => ⟨?_, by simp [World.frozen?, hg]⟩⟩⟩
    have := hc g rfl i (.string (f i)) (by simp [hi])
    have e : (⟨g, 0, none⟩ : Addr).add i = ⟨g, i, none⟩ := by unfold Addr.add; split <;> simp_all
    rw [e] at this; exact this
theorem SF.kept {w w' : World} {B : Nat} {v : Value} {n : Nat} {f : Nat → ByteArray} {row : Option Nat} (h : SF w B v n f) (hg : w.grownBy w' row) (hne : v.ownBlock = none ∨ v.ownBlock ≠ row) : SF w' B v n f := World.ownsRow.kept h hg hne
theorem SF.lt {w : World} {B : Nat} {v : Value} {n : Nat} {f : Nat → ByteArray} (h : SF w B v n f) : ∀ k, v.ownBlock = some k → B ≤ k ∧ k < w.heap.size := World.ownsRow.lt h
theorem SF.below {w w' : World} {B : Nat} {v : Value} {n : Nat} {f : Nat → ByteArray} (h : SF w B v n f) (hb : Below w.heap.size w w') : SF w' B v n f :=
  h.kept (grown_of_below hb) (by cases v.ownBlock <;> simp)
theorem SF.drewN {w : World} {B : Nat} {v : Value} {n : Nat} {f : Nat → ByteArray} (h : SF w B v n f) (m : Nat) : SF (w.drewN m) B v n f := h.below (below_drewN (Below.refl _ _) m)
theorem SF.mono {w : World} {B C : Nat} {v : Value} {n : Nat} {f : Nat → ByteArray} (h : SF w B v n f) (hC : C ≤ B) : SF w C v n f := by
  obtain ⟨h1, ⟨rfl, rfl⟩ | ⟨g, cap, cur, rfl, hB, hg, hn, hm, hs, ht⟩⟩ := h
  · exact ⟨h1, .inl ⟨rfl, rfl⟩⟩
  · exact ⟨h1, .inr ⟨g, cap, cur, rfl, Nat.le_trans hC hB, hg, hn, hm, hs, ht⟩⟩
theorem SF.set {w : World} {B g cap : Nat} {n : Nat} {f f' : Nat → ByteArray} (h : SF w B (.slice (some ⟨g, 0, none⟩) n cap) n f) (i : Nat) (y : ByteArray) (hi : i < n) (hf : ∀ j, j < n → f' j = if j = i then y else f j) :
    SF (w.setCell ⟨g, i, none⟩ (.string y)) B (.slice (some ⟨g, 0, none⟩) n cap) n f' := by
  obtain ⟨h1, ⟨h2, _⟩ | ⟨g', cap', cur, h2, hB, hg, hn, hm, hs, ht⟩⟩ := h
  · cases h2
  · injection h2 with h3 _ h4
    injection h3 with h3
    injection h3 with h3
    subst h3 h4
    refine ⟨by simp, .inr ⟨g, cap, cur.setIfInBounds i (.string y), rfl, hB, ?_, hn, hm, by simpa using hs, ?_⟩⟩
    · rw [setCell_eq_setRow w g i cur _ (0, 0) _ hg]; exact setRow_heap w g cur _ _ _ hg
    · rw [Array.toList_setIfInBounds, List.take_set, ht]
      apply List.ext_getElem (by simp)
      intro j h5 h6
      simp at h5 h6
      rw [List.getElem_set]
      simp only [List.getElem_map, List.getElem_range]
      rw [hf j h6]
      by_cases e : i = j
      · subst e; simp
      · rw [if_neg e, if_neg (fun e' => e e'.symm)]
theorem SF.alloc {w : World} {B : Nat} {v : Value} {n : Nat} {f : Nat → ByteArray} (h : SF w B v n f) (o : Obj) : SF (w.alloc o) B v n f := World.ownsRow.alloc h o
theorem SF.at {w : World} {B g n cap : Nat} {f : Nat → ByteArray} (h : SF w B (.slice (some ⟨g, 0, none⟩) n cap) n f) (i : Nat) (hi : i < n) : w.cell? ⟨g, i, none⟩ = some (.string (f i)) ∧ w.frozen? ⟨g, i, none⟩ = false := by
  obtain ⟨a', cap', hf1, hf2⟩ := h.form
  obtain ⟨g', rfl, _, _, hc⟩ := hf2 (by omega)
  injection hf1 with e1
  injection e1 with e1
  injection e1 with e1
  subst e1
  exact hc i hi
theorem SF.made (w : World) (n : Nat) (hm : n ≤ 1048576) : SF (w.alloc (.cells (madeCells #[.string ⟨#[]⟩] n) 9)) w.heap.size (.slice (some ⟨w.heap.size, 0, none⟩) n n) n (fun _ => ⟨#[]⟩) := by
  have hs : (madeCells #[Value.string ⟨#[]⟩] n).size = n := by simp [madeCells]
  refine ⟨by simp, .inr ⟨w.heap.size, n, madeCells #[.string ⟨#[]⟩] n, rfl, Nat.le_refl _, ?_, Nat.le_refl _, by unfold maxLen; omega, by rw [hs]; omega, ?_⟩⟩
  · show (w.heap.push _)[w.heap.size]? = _
    simp
  · apply List.ext_getElem?
    intro j
    by_cases hj : j < n
    · simp [madeCells, hj, Nat.mod_one]
    · simp [hj, hs]
theorem make_strs (n : Nat) (h : n ≤ 1048576) (w : World) :
    (Instr.makeSlice 36 (.int .i64 (n : Int)) (.int .i64 (n : Int))).run Try.prog w = .ok (.slice (some ⟨w.heap.size, 0, none⟩) n n) (w.alloc (.cells (madeCells #[.string ⟨#[]⟩] n) 9)) :=
  run_make_row' (P := Try.prog) 36 9 (.string ⟨#[]⟩) 16 (by kernel_rfl) (by kernel_rfl) rfl .i64 .i64 n (by omega) (by omega) w
theorem strs_info : (Try.prog.info? 9).map (fun i => (i.zero, i.size, i.bytes)) = some (some (.string ⟨#[]⟩), 1, 16) := by kernel_rfl
theorem wpList_append_str {w : World} {ops : Array Oper} {rest : List Oper} {o : Oper} {a : Act} {Q : Exit → Act → World → Prop} (hgd : o.guard = none) (s x : Operand)
    (ho : o.op = .call { callee := .builtin .append, args := #[s, x], argTypes := #[36, 36] }) (B : Nat) (v : Value) (n : Nat) (f : Nat → ByteArray) (hs : a.eval s = v) (hown : SF w B v n f)
    (ad c : Nat) (y : ByteArray) (hx : a.eval x = .slice (some ⟨ad, 0, none⟩) 1 c) (hc : w.cell? ⟨ad, 0, none⟩ = some (.string y)) (hn : n ≤ 1048576) (hB : B ≤ w.heap.size)
    (h : ∀ v' w', SF w' B v' (n + 1) (fun j => if j < n then f j else y) → w.grownBy w' v.ownBlock → wpList Try.prog ops Q rest (a.put o.dst v') w') : wpList Try.prog ops Q (o :: rest) a w := by
  obtain ⟨i0, hi, hzz⟩ := Option.map_eq_some_iff.1 strs_info
  simp only [Prod.mk.injEq] at hzz
  obtain ⟨hz, hsz, hby⟩ := hzz
  refine wpList_append_own w hgd s x 36 ho B 9 i0 (.string ⟨#[]⟩) 1 16 (by kernel_rfl) hi hz hsz hby rfl (by decide) v n _ hs hown ⟨ad, 0, none⟩ 1 c [.string y] hx rfl ?_ ?_ ?_ ?_ hB ?_
  · intro j u hj
    cases j with
    | zero => simp at hj; subst hj; exact hc
    | succ j => simp at hj
  · intro u hu; simp at hu; subst hu; rfl
  · unfold maxLen; omega
  · omega
  · intro v' w' h1 h2 _
    refine h v' w' ?_ h2
    unfold SF
    have e : ((List.range (n + 1)).map fun j => Value.string (if j < n then f j else y)) = ((List.range n).map fun j => Value.string (f j)) ++ [.string y] := by
      have e1 : (List.range n).map (fun j => Value.string (if j < n then f j else y)) = (List.range n).map (fun j => Value.string (f j)) := List.map_congr_left fun j hj => by rw [if_pos (List.mem_range.1 hj)]
      rw [List.range_succ, List.map_append, e1, List.map_cons, List.map_nil, if_neg (Nat.lt_irrefl n)]
    rw [e]; exact h1

/-- A slice of n strings that can be read: element i is f i. -/
def Strs (w : World) (v : Value) (n : Nat) (f : Nat → ByteArray) : Prop :=
  ∃ a cap, v = .slice a n cap ∧ ∀ i, i < n → ∃ x : Addr, a = some x ∧ x.block < w.heap.size ∧ w.cell? (x.add i) = some (.string (f i))
theorem add_block (x : Addr) (i : Nat) : (x.add i).block = x.block := by unfold Addr.add; split <;> rfl
theorem Strs.below {w w' : World} {v : Value} {n : Nat} {f : Nat → ByteArray} (h : Strs w v n f) (hb : Below w.heap.size w w') : Strs w' v n f := by
  obtain ⟨a, cap, rfl, hc⟩ := h
  refine ⟨a, cap, rfl, fun i hi => ?_⟩
  obtain ⟨x, rfl, h1, h2⟩ := hc i hi
  exact ⟨x, rfl, Nat.lt_of_lt_of_le h1 hb.size, (hb.cell (p := x.add i) (by rw [add_block]; exact h1)).trans h2⟩
theorem SF.strs {w : World} {B : Nat} {v : Value} {n : Nat} {f : Nat → ByteArray} (h : SF w B v n f) : Strs w v n f := by
  obtain ⟨a, cap, rfl, hc⟩ := h.form
  refine ⟨a, cap, rfl, fun i hi => ?_⟩
  obtain ⟨g, rfl, _, hl, hcc⟩ := hc (by omega)
  have e : (⟨g, 0, none⟩ : Addr).add i = ⟨g, i, none⟩ := by unfold Addr.add; split <;> simp_all
  exact ⟨_, rfl, hl, by rw [e]; exact (hcc i hi).1⟩
theorem SF.empty (w : World) (f : Nat → ByteArray) : SF (w.alloc (.cells #[] 9)) w.heap.size (.slice (some ⟨w.heap.size, 0, none⟩) 0 0) 0 f := by
  refine ⟨by simp, .inr ⟨w.heap.size, 0, #[], rfl, Nat.le_refl _, ?_, Nat.le_refl _, by unfold maxLen; omega, rfl, rfl⟩⟩
  show (w.heap.push _)[w.heap.size]? = _
  simp
end Go.Proofs.Ytbkppjelljljcaa
