/- Differences, of both sides; bytes appended to a slice that may grow. -/
import Derived.Test.YtabokoodpobnnaaDoorFrm2
import Derived.Laws.AppendOwn
import Derived.StillTailTactics
import Derived.Deep.RegionHeld3
namespace Go.Proofs.YtabokoodpobnnaaDoor
open Go.RowKit Go.Shelf
set_option linter.unusedVariables false
set_option maxRecDepth 100000
theorem BO.form {w : World} {B : Nat} {v : Value} {n : Nat} {f : Nat → Nat} (h : BO w B v n f) : ∃ a cap, v = .slice a n cap ∧ (0 < n → ∃ g, a = some ⟨g, 0, none⟩ ∧ B ≤ g ∧ g < w.heap.size ∧
    ∀ i, i < n → w.cell? ⟨g, i, none⟩ = some (.int .u8 (f i : Nat)) ∧ w.frozen? ⟨g, i, none⟩ = false) := by
  have hc := fun g hg => World.ownsRow.cells h (g := g) hg
  obtain ⟨h1, ⟨rfl, rfl⟩ | ⟨g, cap, cur, rfl, hB, hg, hn, hm, hs, ht⟩⟩ := h
  · exact ⟨none, 0, rfl, fun h => absurd h (Nat.lt_irrefl 0)⟩
  · refine ⟨_, cap, rfl, fun _ => ⟨g, rfl, hB, (Array.getElem?_eq_some_iff.1 hg).1, fun i hi => ⟨?_, by simp [World.frozen?, hg]⟩⟩⟩
    have := hc g rfl i (.int .u8 (f i : Nat)) (by simp [hi])
    have e : (⟨g, 0, none⟩ : Addr).add i = ⟨g, i, none⟩ := by unfold Addr.add; split <;> simp_all
    rw [e] at this; exact this
theorem BO.lt {w : World} {B : Nat} {v : Value} {n : Nat} {f : Nat → Nat} (h : BO w B v n f) : ∀ k, v.ownBlock = some k → B ≤ k ∧ k < w.heap.size := World.ownsRow.lt h
theorem BO.nil (w : World) (B : Nat) (f : Nat → Nat) : BO w B (.slice none 0 0) 0 f := World.ownsRow_nil w B _ 1
theorem BO.below {w w' : World} {B : Nat} {v : Value} {n : Nat} {f : Nat → Nat} (h : BO w B v n f) (hb : Below w.heap.size w w') : BO w' B v n f :=
  h.kept (grown_of_below hb) (by cases v.ownBlock <;> simp)
theorem BO.one (w : World) (x : Nat) (f : Nat → Nat) (hf : f 0 = x) : BO (w.alloc (.cells #[.int .u8 (x : Nat)] 5)) w.heap.size (.slice (some ⟨w.heap.size, 0, none⟩) 1 1) 1 f := by
  subst hf
  refine ⟨by simp, .inr ⟨w.heap.size, 1, #[.int .u8 (f 0 : Nat)], rfl, Nat.le_refl _, ?_, Nat.le_refl _, by unfold maxLen; omega, by simp, by simp⟩⟩
  show (w.heap.push _)[w.heap.size]? = _
  simp
theorem bo_join (n m : Nat) (f y : Nat → Nat) : ((List.range (n + m)).map fun j => Value.int .u8 ((if j < n then f j else y (j - n) : Nat) : Int)) = ((List.range n).map fun j => Value.int .u8 (f j : Nat)) ++ ((List.range m).map fun j => Value.int .u8 (y j : Nat)) := by
  apply List.ext_getElem (by simp)
  intro i h3 h4
  simp only [List.length_map, List.length_range] at h3
  rw [List.getElem_map, List.getElem_range]
  by_cases e : i < n
  · rw [if_pos e, List.getElem_append_left (by simp; exact e), List.getElem_map, List.getElem_range]
  · rw [if_neg e, List.getElem_append_right (by simp; omega), List.getElem_map, List.getElem_range]
    simp
theorem wpList_append_bytes {w : World} {ops : Array Oper} {rest : List Oper} {o : Oper} {a : Act} {Q : Exit → Act → World → Prop} (hgd : o.guard = none) (s x : Operand)
    (ho : o.op = .call { callee := .builtin .append, args := #[s, x], argTypes := #[29, 29] }) (B : Nat) (v : Value) (n : Nat) (f : Nat → Nat) (hs : a.eval s = v) (hown : BO w B v n f)
    (ad off m c : Nat) (y : Nat → Nat) (hx : a.eval x = .slice (some ⟨ad, off, none⟩) m c) (hc : ∀ j, j < m → w.cell? ⟨ad, off + j, none⟩ = some (.int .u8 (y j : Nat))) (hn : n + m ≤ 1000000) (hB : B ≤ w.heap.size)
    (h : ∀ v' w', BO w' B v' (n + m) (fun j => if j < n then f j else y (j - n)) → w.grownBy w' v.ownBlock → wpList Tryd.prog ops Q rest (a.put o.dst v') w') : wpList Tryd.prog ops Q (o :: rest) a w := by
  obtain ⟨i0, hi, hzz⟩ := Option.map_eq_some_iff.1 bytes_own_info
  simp only [Prod.mk.injEq] at hzz
  obtain ⟨hz, hsz, hby⟩ := hzz
  refine wpList_append_own w hgd s x 29 ho B 5 i0 (.int .u8 0) 1 1 (by kernel_rfl) hi hz hsz hby rfl (by decide) v n _ hs hown ⟨ad, off, none⟩ m c ((List.range m).map fun j => Value.int .u8 (y j : Nat)) hx (by simp) ?_ ?_ ?_ ?_ hB ?_
  · intro j u hj
    rw [List.getElem?_map] at hj
    by_cases hjm : j < m
    · rw [List.getElem?_range hjm] at hj
      simp only [Option.map_some, Option.some.injEq] at hj
      rw [show (⟨ad, off, none⟩ : Addr).add j = ⟨ad, off + j, none⟩ by unfold Addr.add; split <;> simp_all, hc j hjm, hj]
    · rw [List.getElem?_eq_none (by simp; omega)] at hj; cases hj
  · intro u hu
    simp at hu
    obtain ⟨j, _, rfl⟩ := hu
    rfl
  · unfold maxLen; omega
  · omega
  · intro v' w' h1 h2 _
    refine h v' w' ?_ h2
    unfold BO
    rw [bo_join n m f y]; exact h1
theorem step_append_bytes {w : World} {ops : Array Oper} {o : Oper} {a : Act} {K : Act → World → Prop} {Q : Exit → Act → World → Prop} {E : Prop} (hgd : o.guard = none) (s x : Operand)
    (ho : o.op = .call { callee := .builtin .append, args := #[s, x], argTypes := #[29, 29] }) (B : Nat) (v : Value) (n : Nat) (f : Nat → Nat) (hs : a.eval s = v) (hown : BO w B v n f)
    (ad off m c : Nat) (y : Nat → Nat) (hx : a.eval x = .slice (some ⟨ad, off, none⟩) m c) (hc : ∀ j, j < m → w.cell? ⟨ad, off + j, none⟩ = some (.int .u8 (y j : Nat))) (hn : n + m ≤ 1000000) (hB : B ≤ w.heap.size)
    (h : ∀ v' w', BO w' B v' (n + m) (fun j => if j < n then f j else y (j - n)) → w.grownBy w' v.ownBlock → K (a.put o.dst v') w') :
    if Region.wanted o (yielded ops a.tmps) = true then Oper.wp Tryd.prog o a w K Q else E := by
  have hw : Region.wanted o (yielded ops a.tmps) = true := by simp [Region.wanted, hgd]
  rw [if_pos hw]
  obtain ⟨i0, hi, hzz⟩ := Option.map_eq_some_iff.1 bytes_own_info
  simp only [Prod.mk.injEq] at hzz
  obtain ⟨hz, hsz, hby⟩ := hzz
  refine wp_append_own w s x 29 ho B 5 i0 (.int .u8 0) 1 1 (by kernel_rfl) hi hz hsz hby rfl (by decide) v n _ hs hown ⟨ad, off, none⟩ m c ((List.range m).map fun j => Value.int .u8 (y j : Nat)) hx (by simp) ?_ ?_ ?_ ?_ hB ?_
  · intro j u hj
    rw [List.getElem?_map] at hj
    by_cases hjm : j < m
    · rw [List.getElem?_range hjm] at hj
      simp only [Option.map_some, Option.some.injEq] at hj
      rw [show (⟨ad, off, none⟩ : Addr).add j = ⟨ad, off + j, none⟩ by unfold Addr.add; split <;> simp_all, hc j hjm, hj]
    · rw [List.getElem?_eq_none (by simp; omega)] at hj; cases hj
  · intro u hu
    simp at hu
    obtain ⟨j, _, rfl⟩ := hu
    rfl
  · unfold maxLen; omega
  · omega
  · intro v' w' h1 h2 _
    refine h v' w' ?_ h2
    unfold BO
    rw [bo_join n m f y]; exact h1
/-- The bits that change where a bit is 1. -/
def dE (z : ByteArray) : Nat → Nat
  | 0 => 48
  | k + 1 => addB (dE z k) (zb z k)
theorem dE_bit (z : ByteArray) : ∀ k, dE z k = 48 ∨ dE z k = 49
  | 0 => .inl rfl
  | k + 1 => addB_bit _ _
theorem dE_lt (z : ByteArray) (k : Nat) : dE z k < 256 := by rcases dE_bit z k with h | h <;> omega
theorem addB_comm (x y : Nat) : addB x y = addB y x := by
  unfold addB
  by_cases e : x = y
  · rw [if_pos e, if_pos e.symm]
  · rw [if_neg e, if_neg (fun h => e h.symm)]
def denS (z : ByteArray) : ByteArray := strF (z.size + 1) (dE z)
def denAns (z : ByteArray) : ByteArray × Bool := if bitsB z = true ∧ z.size < 600 then (denS z, true) else noS
def ddF (z : ByteArray) (i : Nat) : Nat := addB (zb z i) (zb z (i + 1))
theorem ddF_lt (z : ByteArray) (i : Nat) : ddF z i < 256 := by rcases addB_bit (zb z i) (zb z (i + 1)) with h | h <;> (unfold ddF; omega)
def ddS (z : ByteArray) : ByteArray := strF (z.size - 1) (ddF z)
def ddAns (z : ByteArray) : ByteArray × Bool := if bitsB z = true ∧ 0 < z.size then (ddS z, true) else noS
theorem ok_cut {z : ByteArray} (h : okB z z.size = true) (a b : Nat) (hb : b ≤ z.size) : okB (z.extract a b) (z.extract a b).size = true := okB_of_zb _ fun i hi => by
  rw [size_extract _ _ _ hb] at hi
  rw [zb_extract _ _ _ _ hb (by omega)]
  exact okB_zb z h _ (by omega)
theorem not_empty {z : ByteArray} (h : 0 < z.size) : z.toList.isEmpty = false := by
  have t0 := str_ne (y := z) (z := ⟨#[]⟩) (fun e => by rw [e] at h; exact absurd h (by decide))
  have e : ByteArray.toList ⟨#[]⟩ = [] := by rw [ByteArray.toList_eq]
  rw [e] at t0
  cases hl : z.toList with
  | nil => rw [hl] at t0; exact absurd t0 (by decide)
  | cons => rfl
end Go.Proofs.YtabokoodpobnnaaDoor
