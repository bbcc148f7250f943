/- An append of a slice of numbers in a drawn region. -/
import Derived.Test.YtpacaelnmpdnhaaDoorCat
namespace Go.Proofs.YtpacaelnmpdnhaaDoor
open Go.RowKit
set_option linter.unusedVariables false
set_option maxRecDepth 100000
theorem step_append_ints {w : World} {ops : Array Oper} {o : Oper} {a : Act} {K : Act → World → Prop} {Q : Exit → Act → World → Prop} {E : Prop} (hgd : o.guard = none) (s x : Operand)
    (ho : o.op = .call { callee := .builtin .append, args := #[s, x], argTypes := #[31, 31] }) (B : Nat) (v : Value) (n : Nat) (f : Nat → Int) (hs : a.eval s = v) (hown : OF w B v n f)
    (ad : Addr) (m c : Nat) (g : Nat → Int) (hx : a.eval x = .slice (some ad) m c) (hu : IntsR w (.slice (some ad) m c) m g) (hn : n + m ≤ 1000000) (hB : B ≤ w.heap.size)
    (h : ∀ v' w', OF w' B v' (n + m) (fun j => if j < n then f j else g (j - n)) → w.grownBy w' v.ownBlock → K (a.put o.dst v') w') :
    if Region.wanted o (yielded ops a.tmps) = true then Oper.wp Tryd.prog o a w K Q else E := by
  have hw : Region.wanted o (yielded ops a.tmps) = true := by simp [Region.wanted, hgd]
  rw [if_pos hw]
  obtain ⟨i0, hi, hzz⟩ := Option.map_eq_some_iff.1 ints_info
  simp only [Prod.mk.injEq] at hzz
  obtain ⟨hz, hsz, hby⟩ := hzz
  have e : ((List.range (n + m)).map fun j => Value.int .i64 (if j < n then f j else g (j - n))) = ((List.range n).map fun j => Value.int .i64 (f j)) ++ ((List.range m).map fun j => Value.int .i64 (g j)) := by
    apply List.ext_getElem (by simp)
    intro j h1 h2
    simp at h1
    by_cases hj : j < n
    · rw [List.getElem_append_left (by simpa using hj)]; simp [hj]
    · rw [List.getElem_append_right (by simp; omega)]; simp [hj]
  obtain ⟨a', c', e1, hc⟩ := hu
  injection e1 with e1 _ _
  subst e1
  refine wp_append_own w s x 31 ho B 3 i0 (.int .i64 0) 1 8 (by kernel_rfl) hi hz hsz hby rfl (by decide) v n _ hs hown ad m c ((List.range m).map fun j => Value.int .i64 (g j)) hx (by simp) ?_ ?_ ?_ ?_ hB ?_
  · intro j y hj
    rw [List.getElem?_map] at hj
    by_cases hjm : j < m
    · rw [List.getElem?_range hjm] at hj
      simp at hj
      subst hj
      obtain ⟨x', e2, _, h3⟩ := hc j hjm
      injection e2 with e2
      subst e2
      exact h3
    · rw [List.getElem?_eq_none (by simp; omega)] at hj
      simp at hj
  · intro y hy
    simp at hy
    obtain ⟨j, _, rfl⟩ := hy
    rfl
  · unfold maxLen; omega
  · omega
  · intro v' w' h1 h2 _
    refine h v' w' ?_ h2
    unfold OF
    rw [e]; exact h1
end Go.Proofs.YtpacaelnmpdnhaaDoor
