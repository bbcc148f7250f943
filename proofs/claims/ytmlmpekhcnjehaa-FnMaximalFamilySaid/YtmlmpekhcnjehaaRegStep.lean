/- Contracts of steps: StepRegister, BackRegister, JumpRegister, of the program and of its model. -/
import Derived.Test.YtmlmpekhcnjehaaRegBase
namespace Go.Proofs.Ytmlmpekhcnjehaa
open Go.RowKit

theorem iRegisterValid_yes (s t x : Nat) (w : World) (h : RegN s t x) :
    Calls Try.prog 53 #[.agg #[.int .i64 s, .int .i64 t, .int .i64 x]] w fun e w' => e = .returned (.bool true) ∧ Below w.heap.size w w' := by
  rw [← h.valid]; exact iRegisterValid_any _ _ _ w
theorem iRegisterValid_no (S T X : Int) (w : World) (h : regB S T X = false) :
    Calls Try.prog 53 #[.agg #[.int .i64 S, .int .i64 T, .int .i64 X]] w fun e w' => e = .returned (.bool false) ∧ Below w.heap.size w w' := by
  rw [← h]; exact iRegisterValid_any _ _ _ w
theorem sRegisterValid_yes (s t x : Nat) (w : World) (h : RegN s t x) :
    Calls Try.prog 77 #[.agg #[.int .i64 s, .int .i64 t, .int .i64 x]] w fun e w' => e = .returned (.bool true) ∧ Below w.heap.size w w' := by
  rw [← h.valid]; exact sRegisterValid_any _ _ _ w
theorem sRegisterValid_no (S T X : Int) (w : World) (h : regB S T X = false) :
    Calls Try.prog 77 #[.agg #[.int .i64 S, .int .i64 T, .int .i64 X]] w fun e w' => e = .returned (.bool false) ∧ Below w.heap.size w w' := by
  rw [← h]; exact sRegisterValid_any _ _ _ w
/-- Behind a call, the two blocks are as they were. -/
theorem two_after {w W1 : World} {t : TypeId} {S T X : Int}
    (hb : Below ((w.alloc (.cells #[.int .i64 S, .int .i64 T, .int .i64 X] t)).alloc (.cells #[.int .i64 0, .int .i64 0, .int .i64 0] t)).heap.size ((w.alloc (.cells #[.int .i64 S, .int .i64 T, .int .i64 X] t)).alloc (.cells #[.int .i64 0, .int .i64 0, .int .i64 0] t)) W1) :
    Below w.heap.size w W1 ∧ RegAt W1 w.heap.size S T X ∧ RegAt W1 (w.heap.size + 1) 0 0 0 ∧ (∀ o, W1.frozen? ⟨w.heap.size, o, none⟩ = false) ∧ (∀ o, W1.frozen? ⟨w.heap.size + 1, o, none⟩ = false) ∧ w.heap.size + 2 ≤ W1.heap.size := by
  obtain ⟨W, h1, h2, h3, h4, h5, h6, h7⟩ := two_new w t S T X
  rw [h7] at hb
  refine ⟨below_then h1 (Nat.le_refl _) hb, h2.below hb h2.2.2.2, h3.below hb h3.2.2.2, ?_, ?_, ?_⟩
  · intro o; exact (hb.frozen (p := ⟨w.heap.size, o, none⟩) (by show w.heap.size < _; omega)).trans (h4 o)
  · intro o; exact (hb.frozen (p := ⟨w.heap.size + 1, o, none⟩) (by show w.heap.size + 1 < _; omega)).trans (h5 o)
  · have := hb.size; omega
end Go.Proofs.Ytmlmpekhcnjehaa
