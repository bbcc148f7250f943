/- A step of the program by value; a box that can be written. -/
import Derived.Test.YtkkakfkebjdkeaaRegStep
namespace Go.Proofs.Ytkkakfkebjdkeaa
open Go.RowKit
set_option linter.unusedVariables false
/-- A box of the call's own, which can be written. -/
def BoxF (W : World) (b : Nat) (S T X : Int) : Prop := RegAt W b S T X ∧ ∀ o, W.frozen? ⟨b, o, none⟩ = false
theorem BoxF.new (W : World) (t : TypeId) (S T X : Int) : BoxF (W.alloc (.cells #[.int .i64 S, .int .i64 T, .int .i64 X] t)) W.heap.size S T X := ⟨RegAt.new W t S T X, fun o => by simp⟩
theorem BoxF.below {W W' : World} {b B : Nat} {S T X : Int} (h : BoxF W b S T X) (hb : Below B W W') (hB : b < B) : BoxF W' b S T X :=
  ⟨h.1.below hb hB, fun o => (hb.frozen (p := ⟨b, o, none⟩) hB).trans (h.2 o)⟩
theorem BoxF.lt {W : World} {b : Nat} {S T X : Int} (h : BoxF W b S T X) : b < W.heap.size := h.1.2.2.2
theorem BoxF.kept {W W' : World} {b : Nat} {row : Option Nat} {S T X : Int} (h : BoxF W b S T X) (hg : W.grownBy W' row) (hne : some b ≠ row) : BoxF W' b S T X :=
  ⟨h.1.kept hg hne, fun o => frozen_kept' (h.2 o) h.1.2.2.2 hg hne⟩
theorem BoxF.set1 {W : World} {b : Nat} {S T X : Int} (h : BoxF W b S T X) (X' : Int) :
    ∃ V, W.setCell ⟨b, 2, none⟩ (.int .i64 X') = V ∧ BoxF V b S T X' ∧ W.grownBy V (some b) ∧ ∀ (W0 : World) (B : Nat), B ≤ b → Below B W0 W → Below B W0 V := by
  obtain ⟨c0, c1, c2, cl⟩ := h.1
  refine ⟨_, rfl, ⟨⟨?_, ?_, ?_, ?_⟩, fun o => ?_⟩, ?_, fun W0 B hB hb => hb.setCell (p := ⟨b, 2, none⟩) hB _⟩
  · go_simp
  · go_simp
  · go_simp
  · simp; exact cl
  · rw [World.frozen?_setCell]; exact h.2 o
  · exact ⟨rfl, rfl, rfl, by simp, fun k hk hne => Below.heap_setCell _ _ _ _ (fun e => hne (by rw [e]))⟩
theorem BoxF.set {W : World} {b : Nat} {S T X : Int} (h : BoxF W b S T X) (S' T' X' : Int) :
    ∃ V, ((W.setCell ⟨b, 0, none⟩ (.int .i64 S')).setCell ⟨b, 1, none⟩ (.int .i64 T')).setCell ⟨b, 2, none⟩ (.int .i64 X') = V ∧ BoxF V b S' T' X' ∧ W.grownBy V (some b) ∧ ∀ (W0 : World) (B : Nat), B ≤ b → Below B W0 W → Below B W0 V := by
  obtain ⟨sA, sF, sG⟩ := h.1.set3 S' T' X'
  exact ⟨_, rfl, ⟨sA, fun o => (sF _).trans (h.2 o)⟩, sG, fun W0 B hB hb => ((hb.setCell (p := ⟨b, 0, none⟩) hB _).setCell (p := ⟨b, 1, none⟩) hB _).setCell (p := ⟨b, 2, none⟩) hB _⟩
end Go.Proofs.Ytkkakfkebjdkeaa
