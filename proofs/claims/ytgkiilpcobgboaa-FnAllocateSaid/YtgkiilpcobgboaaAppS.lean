/- An append of a slice of strings; a row of one string. -/
import Derived.Test.YtgkiilpcobgboaaStrs
import Derived.Laws.AppendOwnNone
namespace Go.Proofs.Ytgkiilpcobgboaa
open Go.RowKit
set_option linter.unusedVariables false
set_option maxRecDepth 100000
theorem SF.tail0 {w : World} {B : Nat} {v : Value} {n : Nat} {f : Nat → ByteArray} (h : SF w B v n f) : v = .slice none 0 0 ∨ ∃ x c, v = .slice (some x) n c := by
  obtain ⟨h1, ⟨rfl, rfl⟩ | ⟨g, cap, cur, rfl, _⟩⟩ := h
  · exact .inl rfl
  · exact .inr ⟨_, _, rfl⟩
theorem SF.one (w : World) (y : ByteArray) : SF (w.alloc (.cells #[.string y] 9)) w.heap.size (.slice (some ⟨w.heap.size, 0, none⟩) 1 1) 1 (fun _ => y) := by
  refine ⟨by simp, .inr ⟨w.heap.size, 1, #[.string y], rfl, Nat.le_refl _, ?_, Nat.le_refl _, by unfold maxLen; omega, rfl, rfl⟩⟩
  show (w.heap.push _)[w.heap.size]? = _
  simp
theorem wpList_append_strs {w : World} {ops : Array Oper} {rest : List Oper} {o : Oper} {a : Act} {Q : Exit → Act → World → Prop} (hgd : o.guard = none) (s x : Operand)
    (ho : o.op = .call { callee := .builtin .append, args := #[s, x], argTypes := #[23, 23] }) (B : Nat) (v : Value) (n : Nat) (f : Nat → ByteArray) (hs : a.eval s = v) (hown : SF w B v n f)
    (u : Value) (m : Nat) (g : Nat → ByteArray) (hx : a.eval x = u) (hu : Strs w u m g) (hu0 : u = .slice none 0 0 ∨ ∃ x c, u = .slice (some x) m c) (hn : n + m ≤ 1000000) (hB : B ≤ w.heap.size)
    (h : ∀ v' w', SF w' B v' (n + m) (fun j => if j < n then f j else g (j - n)) → w.grownBy w' v.ownBlock → wpList Try.prog ops Q rest (a.put o.dst v') w') : wpList Try.prog ops Q (o :: rest) a w := by
  obtain ⟨i0, hi, hzz⟩ := Option.map_eq_some_iff.1 strs_info
  simp only [Prod.mk.injEq] at hzz
  obtain ⟨hz, hsz, hby⟩ := hzz
  have e : ((List.range (n + m)).map fun j => Value.string (if j < n then f j else g (j - n))) = ((List.range n).map fun j => Value.string (f j)) ++ ((List.range m).map fun j => Value.string (g j)) := by
    apply List.ext_getElem (by simp)
    intro j h1 h2
    simp at h1
    by_cases hj : j < n
    · rw [List.getElem_append_left (by simpa using hj)]; simp [hj]
    · rw [List.getElem_append_right (by simp; omega)]; simp [hj]
  rcases hu0 with rfl | ⟨ad, c, rfl⟩
  · have hm : m = 0 := by
      obtain ⟨a', c', e1, _⟩ := hu
      injection e1 with _ e2 _
      exact e2.symm
    subst hm
    refine wpList_append_own_none hgd s x 23 ho B 9 i0 1 (by kernel_rfl) hi v n _ hs hown hx ?_
    exact h v w (hown.congr fun j hj => by rw [if_pos hj]) ⟨rfl, rfl, rfl, Nat.le_refl _, fun _ _ _ => rfl⟩
  · obtain ⟨a', c', e1, hc⟩ := hu
    injection e1 with e1 _ _
    subst e1
    refine wpList_append_own w hgd s x 23 ho B 9 i0 (.string ⟨#[]⟩) 1 16 (by kernel_rfl) hi hz hsz hby rfl (by decide) v n _ hs hown ad m c ((List.range m).map fun j => Value.string (g j)) hx (by simp) ?_ ?_ ?_ ?_ hB ?_
    · intro j y hj
      rw [List.getElem?_map] at hj
      by_cases hjm : j < m
      · rw [List.getElem?_range hjm] at hj
        simp at hj
        subst hj
        obtain ⟨x', e2, _, h3⟩ := hc j hjm
        injection e2 with e2
        subst e2
        exact h3
      · rw [List.getElem?_eq_none (by simp; omega)] at hj
        simp at hj
    · intro y hy
      simp at hy
      obtain ⟨j, _, rfl⟩ := hy
      rfl
    · unfold maxLen; omega
    · omega
    · intro v' w' h1 h2 _
      refine h v' w' ?_ h2
      unfold SF
      rw [e]; exact h1
end Go.Proofs.Ytgkiilpcobgboaa
