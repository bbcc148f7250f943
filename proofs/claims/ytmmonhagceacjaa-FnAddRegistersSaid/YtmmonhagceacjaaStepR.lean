/- A step of the program by value; a box that can be written. -/
import Derived.Test.YtmmonhagceacjaaRegStep
namespace Go.Proofs.Ytmmonhagceacjaa
open Go.RowKit
set_option linter.unusedVariables false
set_option maxRecDepth 100000 in
theorem stepR_yes (s t x : Nat) (w : World) (h : RegN s t x) :
    Calls Try.prog 23 #[.agg #[.int .i64 s, .int .i64 t, .int .i64 x]] w fun e w' => e = .returned (.tuple #[.agg #[.int .i64 s, .int .i64 t, .int .i64 (stepN s t x : Nat)], .bool true]) ∧ Below w.heap.size w w' := by
  have HJ : Hid (∀ w, Calls Try.prog 31 #[.agg #[.int .i64 s, .int .i64 t, .int .i64 x], .int .i64 1] w fun e w' => e = .returned (.tuple #[.agg #[.int .i64 s, .int .i64 t, .int .i64 (stepN s t x : Nat)], .bool true]) ∧ Below w.heap.size w w') := Lib.hid (fun w => iJump_forth s t x 1 w h (by omega))
  have r0 := RegAt.new (w.alloc (.cells #[.int .i64 s, .int .i64 t, .int .i64 x] 24)) 24 0 0 0
  have f0 : ∀ o, ((w.alloc (.cells #[.int .i64 s, .int .i64 t, .int .i64 x] 24)).alloc (.cells #[.int .i64 0, .int .i64 0, .int .i64 0] 24)).frozen? ⟨(w.alloc (.cells #[.int .i64 s, .int .i64 t, .int .i64 x] 24)).heap.size, o, none⟩ = false := fun o => by simp
  have s1 : (w.alloc (.cells #[.int .i64 s, .int .i64 t, .int .i64 x] 24)).heap.size = w.heap.size + 1 := by simp
  rw [s1] at r0 f0
  have b0 : Below w.heap.size w ((w.alloc (.cells #[.int .i64 s, .int .i64 t, .int .i64 x] 24)).alloc (.cells #[.int .i64 0, .int .i64 0, .int .i64 0] 24)) := ((Below.refl _ w).alloc (Nat.le_refl _) _).alloc (by simp) _
  have HF := Lib.hid f0
  clear f0 s1
  go_enter Try.func23, Try.ntmps23
  go_wp2_with fail
  refine (HJ.out _).mono ?_
  rintro e w2 ⟨rfl, hb2⟩
  have b2 := below_then b0 (Nat.le_refl _) hb2
  have g0 := (hb2.frozen (p := ⟨w.heap.size + 1, 0, none⟩) r0.2.2.2).trans (HF.out 0)
  have g1 := (hb2.frozen (p := ⟨w.heap.size + 1, 1, none⟩) r0.2.2.2).trans (HF.out 1)
  have g2 := (hb2.frozen (p := ⟨w.heap.size + 1, 2, none⟩) r0.2.2.2).trans (HF.out 2)
  obtain ⟨d0, d1, d2, dl⟩ := r0.below hb2 r0.2.2.2
  clear hb2 r0 b0 HF HJ
  go_wp2
  refine bodyPost_ret (v := .tuple #[.agg #[.int .i64 s, .int .i64 t, .int .i64 (stepN s t x : Nat)], .bool true]) (by simp [results, Try.results23, go_sem, d0, d1, d2]) rfl ⟨rfl, ?_⟩
  exact ((b2.setCell (p := ⟨w.heap.size + 1, 0, none⟩) (by show w.heap.size ≤ w.heap.size + 1; omega) _).setCell (p := ⟨w.heap.size + 1, 1, none⟩) (by show w.heap.size ≤ w.heap.size + 1; omega) _).setCell (p := ⟨w.heap.size + 1, 2, none⟩) (by show w.heap.size ≤ w.heap.size + 1; omega) _
/-- A box of the call's own, which can be written. -/
def BoxF (W : World) (b : Nat) (S T X : Int) : Prop := RegAt W b S T X ∧ ∀ o, W.frozen? ⟨b, o, none⟩ = false
theorem BoxF.new (W : World) (t : TypeId) (S T X : Int) : BoxF (W.alloc (.cells #[.int .i64 S, .int .i64 T, .int .i64 X] t)) W.heap.size S T X := ⟨RegAt.new W t S T X, fun o => by simp⟩
theorem BoxF.below {W W' : World} {b B : Nat} {S T X : Int} (h : BoxF W b S T X) (hb : Below B W W') (hB : b < B) : BoxF W' b S T X :=
  ⟨h.1.below hb hB, fun o => (hb.frozen (p := ⟨b, o, none⟩) hB).trans (h.2 o)⟩
theorem BoxF.lt {W : World} {b : Nat} {S T X : Int} (h : BoxF W b S T X) : b < W.heap.size := h.1.2.2.2
theorem BoxF.kept {W W' : World} {b : Nat} {row : Option Nat} {S T X : Int} (h : BoxF W b S T X) (hg : W.grownBy W' row) (hne : some b ≠ row) : BoxF W' b S T X :=
  ⟨h.1.kept hg hne, fun o => frozen_kept' (h.2 o) h.1.2.2.2 hg hne⟩
theorem BoxF.set1 {W : World} {b : Nat} {S T X : Int} (h : BoxF W b S T X) (X' : Int) :
    ∃ V, W.setCell ⟨b, 2, none⟩ (.int .i64 X') = V ∧ BoxF V b S T X' ∧ W.grownBy V (some b) ∧ ∀ (W0 : World) (B : Nat), B ≤ b → Below B W0 W → Below B W0 V := by
  obtain ⟨c0, c1, c2, cl⟩ := h.1
  refine ⟨_, rfl, ⟨⟨?_, ?_, ?_, ?_⟩, fun o => ?_⟩, ?_, fun W0 B hB hb => hb.setCell (p := ⟨b, 2, none⟩) hB _⟩
  · go_simp
  · go_simp
  · go_simp
  · simp; exact cl
  · rw [World.frozen?_setCell]; exact h.2 o
  · exact ⟨rfl, rfl, rfl, by simp, fun k hk hne => Below.heap_setCell _ _ _ _ (fun e => hne (by rw [e]))⟩
theorem BoxF.set {W : World} {b : Nat} {S T X : Int} (h : BoxF W b S T X) (S' T' X' : Int) :
    ∃ V, ((W.setCell ⟨b, 0, none⟩ (.int .i64 S')).setCell ⟨b, 1, none⟩ (.int .i64 T')).setCell ⟨b, 2, none⟩ (.int .i64 X') = V ∧ BoxF V b S' T' X' ∧ W.grownBy V (some b) ∧ ∀ (W0 : World) (B : Nat), B ≤ b → Below B W0 W → Below B W0 V := by
  obtain ⟨sA, sF, sG⟩ := h.1.set3 S' T' X'
  exact ⟨_, rfl, ⟨sA, fun o => (sF _).trans (h.2 o)⟩, sG, fun W0 B hB hb => ((hb.setCell (p := ⟨b, 0, none⟩) hB _).setCell (p := ⟨b, 1, none⟩) hB _).setCell (p := ⟨b, 2, none⟩) hB _⟩
end Go.Proofs.Ytmmonhagceacjaa
