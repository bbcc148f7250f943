/- Appending and cutting slices of numbers; signals that are results; ScaleSignal and ClipSignal of both sides. -/
import Derived.Test.YtpacaelnmpdnhaaDoorSig3
import Derived.Laws.AppendOwnNone
namespace Go.Proofs.YtpacaelnmpdnhaaDoor
open Go.RowKit
set_option linter.unusedVariables false
set_option maxRecDepth 100000
theorem wpList_append_ints {w : World} {ops : Array Oper} {rest : List Oper} {o : Oper} {a : Act} {Q : Exit → Act → World → Prop} (hgd : o.guard = none) (s x : Operand)
    (ho : o.op = .call { callee := .builtin .append, args := #[s, x], argTypes := #[31, 31] }) (B : Nat) (v : Value) (n : Nat) (f : Nat → Int) (hs : a.eval s = v) (hown : OF w B v n f)
    (u : Value) (m : Nat) (g : Nat → Int) (hx : a.eval x = u) (hu : IntsR w u m g) (hu0 : u = .slice none 0 0 ∨ ∃ x c, u = .slice (some x) m c) (hn : n + m ≤ 1000000) (hB : B ≤ w.heap.size)
    (h : ∀ v' w', OF w' B v' (n + m) (fun j => if j < n then f j else g (j - n)) → w.grownBy w' v.ownBlock → wpList Tryd.prog ops Q rest (a.put o.dst v') w') : wpList Tryd.prog ops Q (o :: rest) a w := by
  obtain ⟨i0, hi, hzz⟩ := Option.map_eq_some_iff.1 ints_info
  simp only [Prod.mk.injEq] at hzz
  obtain ⟨hz, hsz, hby⟩ := hzz
  have e : ((List.range (n + m)).map fun j => Value.int .i64 (if j < n then f j else g (j - n))) = ((List.range n).map fun j => Value.int .i64 (f j)) ++ ((List.range m).map fun j => Value.int .i64 (g j)) := by
    apply List.ext_getElem (by simp)
    intro j h1 h2
    simp at h1
    by_cases hj : j < n
    · rw [List.getElem_append_left (by simpa using hj)]; simp [hj]
    · rw [List.getElem_append_right (by simp; omega)]; simp [hj]
  rcases hu0 with rfl | ⟨ad, c, rfl⟩
  · have hm : m = 0 := by
      obtain ⟨a', c', e1, _⟩ := hu
      injection e1 with _ e2 _
      exact e2.symm
    subst hm
    refine wpList_append_own_none hgd s x 31 ho B 3 i0 1 (by kernel_rfl) hi v n _ hs hown hx ?_
    exact h v w (hown.congr fun j hj => by rw [if_pos hj]) ⟨rfl, rfl, rfl, Nat.le_refl _, fun _ _ _ => rfl⟩
  · obtain ⟨a', c', e1, hc⟩ := hu
    injection e1 with e1 _ _
    subst e1
    refine wpList_append_own w hgd s x 31 ho B 3 i0 (.int .i64 0) 1 8 (by kernel_rfl) hi hz hsz hby rfl (by decide) v n _ hs hown ad m c ((List.range m).map fun j => Value.int .i64 (g j)) hx (by simp) ?_ ?_ ?_ ?_ hB ?_
    · intro j y hj
      rw [List.getElem?_map] at hj
      by_cases hjm : j < m
      · rw [List.getElem?_range hjm] at hj
        simp at hj
        subst hj
        obtain ⟨x', e2, _, h3⟩ := hc j hjm
        injection e2 with e2
        subst e2
        exact h3
      · rw [List.getElem?_eq_none (by simp; omega)] at hj
        simp at hj
    · intro y hy
      simp at hy
      obtain ⟨j, _, rfl⟩ := hy
      rfl
    · unfold maxLen; omega
    · omega
    · intro v' w' h1 h2 _
      refine h v' w' ?_ h2
      unfold OF
      rw [e]; exact h1
theorem OF.tail0 {w : World} {B : Nat} {v : Value} {n : Nat} {f : Nat → Int} (h : OF w B v n f) : v = .slice none 0 0 ∨ ∃ x c, v = .slice (some x) n c := by
  obtain ⟨h1, ⟨rfl, rfl⟩ | ⟨g, cap, cur, rfl, _⟩⟩ := h
  · exact .inl rfl
  · exact .inr ⟨_, _, rfl⟩
theorem ints_elem (w : World) : (sizeOf (Tryd.prog.elem 31)).run Tryd.prog w = .ok 1 w := by kernel_rfl
theorem addr_plus (x : Addr) (i j : Nat) : (x.add i).add j = x.add (i + j) := by
  by_cases hi : i = 0
  · subst hi; simp [Addr.add]
  · by_cases hj : j = 0
    · subst hj; simp [Addr.add]
    · have h3 : ¬ i + j = 0 := by omega
      simp only [Addr.add, hi, hj, h3, if_false, Nat.add_assoc]
/-- A cut from a place on: again a slice that can be read and cut. -/
theorem cutC {w : World} {v : Value} {n : Nat} {f : Nat → Int} (h : IntsC w v n f) (l m : Nat) (hl : l ≤ m) (hm : m ≤ n) : ∃ a' cap', (∀ w1, (Instr.sliceAt 31 v (some (.int .i64 (l : Int))) (some (.int .i64 (m : Int))) none).run Tryd.prog w1 = .ok (.slice a' (m - l) cap') w1) ∧
    IntsC w (.slice a' (m - l) cap') (m - l) (fun i => f (l + i)) := by
  obtain ⟨a, cap, rfl, hcap, hc⟩ := h
  refine ⟨if cap = l then a else a.map (·.add (l * 1)), cap - l, fun w1 => ?_, ?_⟩
  · rw [run_sliceAt_slice w1 31 _ _ _ _ (by kernel_rfl), run_slice_lh w1 31 a n cap (by kernel_rfl) .i64 .i64 _ _ (by omega) (by omega) (by omega), ints_elem]
    simp [Result.andThen, sliced]
  · refine ⟨_, _, rfl, by omega, fun i hi => ?_⟩
    obtain ⟨x, rfl, h1, h2⟩ := hc (l + i) (by omega)
    refine ⟨x.add l, by rw [if_neg (by omega)]; simp, by rw [add_block]; exact h1, ?_⟩
    rw [addr_plus]; exact h2
theorem tailC {w : World} {v : Value} {n : Nat} {f : Nat → Int} (h : IntsC w v n f) (l : Nat) (hl : l ≤ n) : ∃ a' cap', (∀ w1, (Instr.sliceAt 31 v (some (.int .i64 (l : Int))) none none).run Tryd.prog w1 = .ok (.slice a' (n - l) cap') w1) ∧
    IntsC w (.slice a' (n - l) cap') (n - l) (fun i => f (l + i)) := by
  obtain ⟨a, cap, rfl, hcap, hc⟩ := h
  refine ⟨if cap = l then a else a.map (·.add (l * 1)), cap - l, fun w1 => ?_, ?_⟩
  · rw [run_sliceAt_slice w1 31 _ _ _ _ (by kernel_rfl), run_slice_l w1 31 a n cap (by kernel_rfl) .i64 _ (by omega) (by omega), ints_elem]
    simp [Result.andThen, sliced]
  · refine ⟨_, _, rfl, by omega, fun i hi => ?_⟩
    obtain ⟨x, rfl, h1, h2⟩ := hc (l + i) (by omega)
    refine ⟨x.add l, by rw [if_neg (by omega)]; simp, by rw [add_block]; exact h1, ?_⟩
    rw [addr_plus]; exact h2
/-- A result that must be a signal. -/
def resN (n : Nat) (f : Nat → Int) : Nat := if sigB n f then n else 0
theorem resN_le (n : Nat) (f : Nat → Int) : resN n f ≤ 3000 := by
  unfold resN
  split
  · exact ((sigB_iff n f).1 (by assumption)).2
  · omega
theorem mul_bd {g y : Int} (h1 : -1000000 ≤ g) (h2 : g ≤ 1000000) (h3 : -1000000 ≤ y) (h4 : y ≤ 1000000) : -1000000000000 ≤ g * y ∧ g * y ≤ 1000000000000 := by
  have key : ∀ a b : Int, 0 ≤ a → a ≤ 1000000 → 0 ≤ b → b ≤ 1000000 → 0 ≤ a * b ∧ a * b ≤ 1000000000000 := fun a b p q r s =>
    ⟨Int.mul_nonneg p r, by have := Int.mul_le_mul q s r (by omega); omega⟩
  rcases Int.le_total 0 g with p | p <;> rcases Int.le_total 0 y with q | q
  · have := key g y p h2 q h4; omega
  · have := key g (-y) p h2 (by omega) (by omega); rw [Int.mul_neg] at this; omega
  · have := key (-g) y (by omega) (by omega) q h4; rw [Int.neg_mul] at this; omega
  · have := key (-g) (-y) (by omega) (by omega) (by omega) (by omega); rw [Int.neg_mul_neg] at this; omega
/-- Scaled samples. -/
def scF (g : Int) (f : Nat → Int) (i : Nat) : Int := g * f i
def scOK (n : Nat) (f : Nat → Int) (g : Int) : Bool := sigB n f && (inM g && sigB n (scF g f))
def scN (n : Nat) (f : Nat → Int) (g : Int) : Nat := if scOK n f g then n else 0
theorem scN_le6 (n : Nat) (f : Nat → Int) (g : Int) : scN n f g ≤ 1000000 := by
  unfold scN scOK
  split
  · rename_i h
    rw [Bool.and_eq_true] at h
    have := ((sigB_iff n f).1 h.1).2
    omega
  · omega
theorem scN_in {n : Nat} {f : Nat → Int} {g : Int} (h1 : sigB n f = true) (h2 : inM g = true) : scN n f g = resN n (scF g f) ∧ scOK n f g = sigB n (scF g f) := by
  unfold scN scOK resN; rw [h1, h2]; simp
theorem sc_out {n : Nat} {f : Nat → Int} {g : Int} (h : ¬ (sigB n f = true ∧ inM g = true)) : scN n f g = 0 ∧ scOK n f g = false := by
  have : scOK n f g = false := by
    unfold scOK
    cases h1 : sigB n f with
    | false => rfl
    | true =>
      cases h2 : inM g with
      | false => rfl
      | true => exact absurd ⟨h1, h2⟩ h
  exact ⟨by unfold scN; rw [this]; rfl, this⟩
end Go.Proofs.YtpacaelnmpdnhaaDoor
