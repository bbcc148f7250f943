/- Slices of slices of a call's own that grow; the slices in them. -/
import Derived.Test.YtbllmgdnhjdphacIntss
import Derived.Test.YtbllmgdnhjdphacDrawHop2
namespace Go.Proofs.Ytbllmgdnhjdphac
open Go.RowKit
set_option linter.unusedVariables false
set_option maxRecDepth 100000
theorem XF.empty0 (w : World) (f : Nat → Value) : XF (w.alloc (.cells #[] 26)) w.heap.size (.slice (some ⟨w.heap.size, 0, none⟩) 0 0) 0 f := by
  refine ⟨by simp, .inr ⟨w.heap.size, 0, #[], rfl, Nat.le_refl _, ?_, Nat.le_refl _, by unfold maxLen; omega, rfl, rfl⟩⟩
  show (w.heap.push _)[w.heap.size]? = _
  simp
theorem XF.one (w : World) (y : Value) : XF (w.alloc (.cells #[y] 26)) w.heap.size (.slice (some ⟨w.heap.size, 0, none⟩) 1 1) 1 (fun _ => y) := by
  refine ⟨by simp, .inr ⟨w.heap.size, 1, #[y], rfl, Nat.le_refl _, ?_, Nat.le_refl _, by unfold maxLen; omega, rfl, rfl⟩⟩
  show (w.heap.push _)[w.heap.size]? = _
  simp
theorem XF.kept {w w' : World} {B : Nat} {v : Value} {n : Nat} {f : Nat → Value} {row : Option Nat} (h : XF w B v n f) (hg : w.grownBy w' row) (hne : v.ownBlock = none ∨ v.ownBlock ≠ row) : XF w' B v n f := World.ownsRow.kept h hg hne
theorem XF.lt {w : World} {B : Nat} {v : Value} {n : Nat} {f : Nat → Value} (h : XF w B v n f) : ∀ k, v.ownBlock = some k → B ≤ k ∧ k < w.heap.size := World.ownsRow.lt h
theorem XF.alloc {w : World} {B : Nat} {v : Value} {n : Nat} {f : Nat → Value} (h : XF w B v n f) (o : Obj) : XF (w.alloc o) B v n f := h.kept (World.grownBy_alloc w o none) (by cases v.ownBlock <;> simp)
theorem XF.mono {w : World} {B C : Nat} {v : Value} {n : Nat} {f : Nat → Value} (h : XF w B v n f) (hC : C ≤ B) : XF w C v n f := by
  obtain ⟨h1, h2 | ⟨g, cap, cur, e, hB, hg, r⟩⟩ := h
  · exact ⟨h1, .inl h2⟩
  · exact ⟨h1, .inr ⟨g, cap, cur, e, Nat.le_trans hC hB, hg, r⟩⟩
theorem XF.form {w : World} {B : Nat} {v : Value} {n : Nat} {f : Nat → Value} (h : XF w B v n f) : ∃ a cap, v = .slice a n cap := by
  obtain ⟨h1, ⟨rfl, rfl⟩ | ⟨g, cap, cur, rfl, -⟩⟩ := h
  · exact ⟨_, _, rfl⟩
  · exact ⟨_, _, rfl⟩
theorem x_ne {w : World} {B b : Nat} {v : Value} {n : Nat} {f : Nat → Value} (h : XF w B v n f) (hb : b < B) : v.ownBlock = none ∨ v.ownBlock ≠ some b := by
  cases hv : v.ownBlock with
  | none => exact .inl rfl
  | some q => right; intro e; cases e; have := (h.lt _ hv).1; omega
/-- Numbers and slices lie in different blocks. -/
theorem own_diff {w : World} {B C : Nat} {v u : Value} {n m : Nat} {f : Nat → Int} {h : Nat → Value} (hv : OF w B v n f) (hu : XF w C u m h) : v.ownBlock = none ∨ v.ownBlock ≠ u.ownBlock := by
  obtain ⟨-, ⟨rfl, -⟩ | ⟨g, cap, cur, rfl, hB, hg, -⟩⟩ := hv
  · exact .inl rfl
  · obtain ⟨-, ⟨rfl, -⟩ | ⟨g', cap', cur', rfl, hB', hg', -⟩⟩ := hu
    · right; simp [Value.ownBlock]
    · right
      intro e
      simp only [Value.ownBlock, Option.some.injEq] at e
      subst e
      rw [hg] at hg'
      injection hg' with hg'
      injection hg' with _ h2 _
      exact absurd h2 (by decide)
theorem rows_info : (Try.prog.info? 26).map (fun i => (i.zero, i.size, i.bytes)) = some (some (.slice none 0 0), 1, 24) := by kernel_rfl
theorem wpList_append_row {w : World} {ops : Array Oper} {rest : List Oper} {o : Oper} {a : Act} {Q : Exit → Act → World → Prop} (hgd : o.guard = none) (s x : Operand)
    (ho : o.op = .call { callee := .builtin .append, args := #[s, x], argTypes := #[23, 23] }) (B : Nat) (v : Value) (n : Nat) (f : Nat → Value) (hs : a.eval s = v) (hown : XF w B v n f)
    (ad c : Nat) (ya : Option Addr) (yn yc : Nat) (hx : a.eval x = .slice (some ⟨ad, 0, none⟩) 1 c) (hc : w.cell? ⟨ad, 0, none⟩ = some (.slice ya yn yc)) (hn : n ≤ 1000) (hB : B ≤ w.heap.size)
    (h : ∀ v' w', XF w' B v' (n + 1) (fun j => if j < n then f j else .slice ya yn yc) → w.grownBy w' v.ownBlock → wpList Try.prog ops Q rest (a.put o.dst v') w') : wpList Try.prog ops Q (o :: rest) a w := by
  obtain ⟨i0, hi, hzz⟩ := Option.map_eq_some_iff.1 rows_info
  simp only [Prod.mk.injEq] at hzz
  obtain ⟨hz, hsz, hby⟩ := hzz
  refine wpList_append_own w hgd s x 23 ho B 26 i0 (.slice none 0 0) 1 24 (by kernel_rfl) hi hz hsz hby rfl (by decide) v n _ hs hown ⟨ad, 0, none⟩ 1 c [.slice ya yn yc] hx rfl ?_ ?_ ?_ ?_ hB ?_
  · intro j u hj
    cases j with
    | zero => simp at hj; subst hj; exact hc
    | succ j => simp at hj
  · intro u hu; simp at hu; subst hu; rfl
  · unfold maxLen; omega
  · omega
  · intro v' w' h1 h2 _
    refine h v' w' ?_ h2
    unfold XF
    have e : ((List.range (n + 1)).map fun j => if j < n then f j else Value.slice ya yn yc) = ((List.range n).map f) ++ [.slice ya yn yc] := by
      have e1 : (List.range n).map (fun j => if j < n then f j else Value.slice ya yn yc) = (List.range n).map f := List.map_congr_left fun j hj => by rw [if_pos (List.mem_range.1 hj)]
      rw [List.range_succ, List.map_append, e1, List.map_cons, List.map_nil, if_neg (Nat.lt_irrefl n)]
    rw [e]; exact h1
/-- A slice of numbers that lies in memory of the call's own, or behind the head of one. -/
def InAt (w : World) (B : Nat) (v : Value) : Prop := ∃ (v0 : Value) (n0 : Nat) (g0 : Nat → Int) (m : Nat) (g : Nat → Int), OF w B v0 n0 g0 ∧ m ≤ 301 ∧ ∀ W, OF W B v0 n0 g0 → IntsC W v m g
theorem InAt.of {w : World} {B : Nat} {v : Value} {n : Nat} {f : Nat → Int} (h : OF w B v n f) (hn : n ≤ 301) : InAt w B v := ⟨v, n, f, n, f, h, hn, fun W hW => hW.intsC⟩
theorem InAt.kept {w w' : World} {B : Nat} {v : Value} {row : Option Nat} (h : InAt w B v) (hg : w.grownBy w' row) (hne : ∀ v0 n0 g0, OF w B v0 n0 g0 → v0.ownBlock = none ∨ v0.ownBlock ≠ row) : InAt w' B v := by
  obtain ⟨v0, n0, g0, m, g, h1, h2, h3⟩ := h
  exact ⟨v0, n0, g0, m, g, h1.kept hg (hne _ _ _ h1), h2, h3⟩
theorem InAt.alloc {w : World} {B : Nat} {v : Value} (h : InAt w B v) (o : Obj) : InAt (w.alloc o) B v := h.kept (World.grownBy_alloc w o none) (fun v0 _ _ _ => by cases v0.ownBlock <;> simp)
theorem InAt.below {w w' : World} {B : Nat} {v : Value} (h : InAt w B v) (hb : Below w.heap.size w w') : InAt w' B v := h.kept (grown_of_below hb) (fun v0 _ _ _ => by cases v0.ownBlock <;> simp)
/-- The slice behind the first number of one of a call's own. -/
theorem InAt.tail {w : World} {B : Nat} {a : Option Addr} {n cap : Nat} {f : Nat → Int} (h : OF w B (.slice a n cap) n f) (h1 : 1 ≤ n) (hn : n ≤ 301) : ∃ ta tc, (∀ w1, (Instr.sliceAt 26 (.slice a n cap) (some (.int .i64 1)) none none).run Try.prog w1 = .ok (.slice ta (n - 1) tc) w1) ∧ InAt w B (.slice ta (n - 1) tc) := by
  obtain ⟨ta, tc, t1, t2⟩ := tailC h.intsC 1 h1
  refine ⟨ta, tc, t1, _, n, f, n - 1, fun i => f (1 + i), h, by omega, fun W hW => ?_⟩
  obtain ⟨a', c', t3, t4⟩ := tailC hW.intsC 1 h1
  have e := (t3 W).symm.trans (t1 W)
  injection e with e _
  injection e with e1 _ e3
  rw [← e1, ← e3]; exact t4
theorem rows_snoc {w : World} {B L : Nat} {f : Nat → Value} {y : Value} (h : ∀ i, i < L → InAt w B (f i)) (hy : InAt w B y) : ∀ i, i < L + 1 → InAt w B (if i < L then f i else y) := fun i hi => by
  by_cases e : i < L
  · rw [if_pos e]; exact h i e
  · rw [if_neg e]; exact hy
/-- Rows of the call's own. -/
def RowsAt (w : World) (B : Nat) (v : Value) (L : Nat) : Prop := ∃ f : Nat → Value, XF w B v L f ∧ ∀ i, i < L → InAt w B (f i)
theorem RowsAt.form {w : World} {B : Nat} {v : Value} {L : Nat} (h : RowsAt w B v L) : ∃ a cap, v = .slice a L cap := by
  obtain ⟨f, h1, _⟩ := h; exact h1.form
theorem RowsAt.kept {w w' : World} {B b : Nat} {v : Value} {L : Nat} (h : RowsAt w B v L) (hg : w.grownBy w' (some b)) (hb : b < B) : RowsAt w' B v L := by
  obtain ⟨f, h1, h2⟩ := h
  exact ⟨f, h1.kept hg (x_ne h1 hb), fun i hi => (h2 i hi).kept hg (fun _ _ _ h => own_ne h hb)⟩
theorem RowsAt.alloc {w : World} {B : Nat} {v : Value} {L : Nat} (h : RowsAt w B v L) (o : Obj) : RowsAt (w.alloc o) B v L := by
  obtain ⟨f, h1, h2⟩ := h
  exact ⟨f, h1.alloc o, fun i hi => (h2 i hi).alloc o⟩
theorem InAt.mono {w : World} {B C : Nat} {v : Value} (h : InAt w B v) (hC : C ≤ B) : InAt w C v := by
  obtain ⟨v0, n0, g0, m, g, h1, h2, h3⟩ := h
  refine ⟨v0, n0, g0, m, g, h1.mono hC, h2, fun W hW => ?_⟩
  obtain ⟨k1, k2 | ⟨x, cap, cur, e, hB, r⟩⟩ := hW
  · exact h3 W ⟨k1, .inl k2⟩
  · obtain ⟨-, k3 | ⟨x', cap', cur', e', hB', -⟩⟩ := h1
    · have := k3.1.symm.trans e; injection this with this; cases this
    · have e4 := e'.symm.trans e
      injection e4 with e4
      injection e4 with e4
      injection e4 with e4
      exact h3 W ⟨k1, .inr ⟨x, cap, cur, e, by rw [← e4]; exact hB', r⟩⟩
theorem RowsAt.mono {w : World} {B C : Nat} {v : Value} {L : Nat} (h : RowsAt w B v L) (hC : C ≤ B) : RowsAt w C v L := by
  obtain ⟨f, h1, h2⟩ := h
  exact ⟨f, h1.mono hC, fun i hi => (h2 i hi).mono hC⟩
theorem RowsAt.iir {w : World} {B : Nat} {v : Value} {L : Nat} (h : RowsAt w B v L) : ∃ N F, IIR w v L N F ∧ ∀ i, N i ≤ 301 := by
  obtain ⟨f, h1, h2⟩ := h
  have each : ∀ i, ∃ q : Nat × (Nat → Int), q.1 ≤ 301 ∧ (i < L → IntsC w (f i) q.1 q.2) := by
    intro i
    by_cases hi : i < L
    · obtain ⟨v0, n0, g0, m, g, k1, k2, k3⟩ := h2 i hi
      exact ⟨(m, g), k2, fun _ => k3 w k1⟩
    · exact ⟨(0, fun _ => 0), by omega, fun h => absurd h hi⟩
  obtain ⟨q, hq⟩ := Classical.axiomOfChoice each
  refine ⟨fun i => (q i).1, fun i => (q i).2, ?_, fun i => (hq i).1⟩
  have h3 := h1
  obtain ⟨-, ⟨rfl, rfl⟩ | ⟨g, cap, cur, rfl, hB, hg, hn, hm, hs, ht⟩⟩ := h1
  · exact ⟨none, 0, rfl, Nat.le_refl _, fun i hi => absurd hi (Nat.not_lt_zero i)⟩
  · refine ⟨_, cap, rfl, hn, fun i hi => ⟨⟨g, 0, none⟩, f i, rfl, ?_, ?_, (hq i).2 hi⟩⟩
    · exact (Array.getElem?_eq_some_iff.1 hg).1
    · have e : (⟨g, 0, none⟩ : Addr).add i = ⟨g, i, none⟩ := by unfold Addr.add; split <;> simp_all
      rw [e]; exact h3.at i hi
end Go.Proofs.Ytbllmgdnhjdphac
