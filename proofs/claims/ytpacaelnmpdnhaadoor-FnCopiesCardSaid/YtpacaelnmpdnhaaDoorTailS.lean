/- The rest of a slice of strings of the call's own. -/
import Derived.Test.YtpacaelnmpdnhaaDoorStrs
namespace Go.Proofs.YtpacaelnmpdnhaaDoor
open Go.RowKit
set_option linter.unusedVariables false
theorem addrT_add (g o i : Nat) : (⟨g, o, none⟩ : Addr).add i = ⟨g, o + i, none⟩ := by unfold Addr.add; split <;> simp_all
theorem strT_elem (w : World) : (sizeOf (Tryd.prog.elem 24)).run Tryd.prog w = .ok 1 w := by kernel_rfl
theorem tailT_strs {w : World} {B : Nat} {v : Value} {n : Nat} {f : Nat → ByteArray} (h : SF w B v n f) (l : Nat) (hl : l ≤ n) : ∃ a' cap', (∀ w1, (Instr.sliceAt 24 v (some (.int .i64 (l : Int))) none none).run Tryd.prog w1 = .ok (.slice a' (n - l) cap') w1) ∧
    ∀ i, i < n - l → ∃ x : Addr, a' = some x ∧ x.block < w.heap.size ∧ w.cell? (x.add i) = some (.string (f (l + i))) := by
  have hc := h.form
  obtain ⟨h1, ⟨rfl, rfl⟩ | ⟨g, cap, cur, rfl, hB, hg, hn, hm, hs, ht⟩⟩ := h
  · obtain rfl : l = 0 := by omega
    exact ⟨_, _, fun w1 => by rw [run_sliceAt_slice w1 24 _ _ _ _ (by kernel_rfl), run_slice_l w1 24 none 0 0 (by kernel_rfl) .i64 _ (by omega) (by omega), strT_elem]; rfl, fun i hi => absurd hi (Nat.not_lt_zero i)⟩
  · refine ⟨if cap = l then some ⟨g, 0, none⟩ else some ⟨g, l, none⟩, cap - l, fun w1 => ?_, fun i hi => ?_⟩
    · rw [run_sliceAt_slice w1 24 _ _ _ _ (by kernel_rfl), run_slice_l w1 24 _ n cap (by kernel_rfl) .i64 _ (by omega) (by omega), strT_elem]
      simp [Result.andThen, sliced, addrT_add]
    · obtain ⟨a', cap', hf1, hf2⟩ := hc
      obtain ⟨g', rfl, _, hgl, hcc⟩ := hf2 (by omega)
      injection hf1 with e1
      injection e1 with e1
      injection e1 with e1
      subst e1
      refine ⟨⟨g, l, none⟩, by rw [if_neg (by omega)], hgl, ?_⟩
      have := (hcc (l + i) (by omega)).1
      rw [addrT_add]; exact this
theorem headT_run (a : Option Addr) (n cap m : Nat) (hm : m ≤ n) (hc : n ≤ cap) (w1 : World) : (Instr.sliceAt 24 (.slice a n cap) none (some (.int .i64 (m : Int))) none).run Tryd.prog w1 = .ok (.slice a m cap) w1 := by
  rw [run_sliceAt_slice w1 24 _ _ _ _ (by kernel_rfl), run_slice_h w1 24 a n cap (by kernel_rfl) .i64 _ (by omega) (by omega), strT_elem]
  simp [Result.andThen, sliced]
  intro _
  cases a with
  | none => rfl
  | some x =>
    show some (x.add 0) = some x
    congr 1
/-- The first m strings of a slice of one's own, by x[:m]. -/
theorem SF.head {w : World} {B : Nat} {v : Value} {n : Nat} {f : Nat → ByteArray} (h : SF w B v n f) (m : Nat) (hm : m ≤ n) : ∃ u, (∀ w1, (Instr.sliceAt 24 v none (some (.int .i64 (m : Int))) none).run Tryd.prog w1 = .ok u w1) ∧ SF w B u m f := by
  obtain ⟨h1, ⟨rfl, rfl⟩ | ⟨g, cap, cur, rfl, hB, hg, hn, hmx, hs, ht⟩⟩ := h
  · obtain rfl : m = 0 := by omega
    exact ⟨_, fun w1 => headT_run none 0 0 0 (Nat.le_refl _) (Nat.le_refl _) w1, SF.nil _ _ _⟩
  · refine ⟨_, fun w1 => headT_run _ n cap m hm hn w1, by simp, .inr ⟨g, cap, cur, rfl, hB, hg, by omega, hmx, hs, ?_⟩⟩
    rw [Nat.mul_one] at ht ⊢
    have : cur.toList.take m = (cur.toList.take n).take m := by rw [List.take_take, Nat.min_eq_left hm]
    rw [this, ht, ← List.map_take, List.take_range, Nat.min_eq_left hm]
end Go.Proofs.YtpacaelnmpdnhaaDoor
