/- The walks of the exact laws of StepRegister, BackRegister and JumpRegister. -/
import Derived.Test.YtnpaigpdbjadlaaRegJump
namespace Go.Proofs.Ytnpaigpdbjadlaa
open Go.RowKit
theorem fnExactStepRegister_walk (S T X : Int) (w : World) (_ : (Lit.int .i64 S).wf = true) (_ : (Lit.int .i64 T).wf = true) (_ : (Lit.int .i64 X).wf = true) :
    Calls Try.prog 3 #[.agg #[.int .i64 S, .int .i64 T, .int .i64 X]] w fun e w' => e = .returned (.bool true) ∧ Below w.heap.size w w' := by
  have hs := fun w => sStep_any S T X w
  have hi := fun w => iStep_any S T X w
  obtain ⟨a, ha⟩ : ∃ a, stepAns S T X = a := ⟨_, rfl⟩
  rw [ha] at hs hi
  clear ha
  obtain ⟨a0, a1, a2, ok⟩ := a
  unfold RegAns.val at *
  have HS := Lib.hid hs
  have HI := Lib.hid hi
  clear hs hi
  have r0 := RegAt.new w 23 S T X
  have b0 : Below w.heap.size w (w.alloc (.cells #[.int .i64 S, .int .i64 T, .int .i64 X] 23)) := (Below.refl _ _).alloc (Nat.le_refl _) _
  go_enter Try.func3, Try.ntmps3
  go_wp2_with fail
  refine (toRegister_any S T X _).mono ?_
  rintro e w1 ⟨rfl, hb1⟩
  have r1 := r0.below hb1 (by simp)
  have b1 := below_then b0 (Nat.le_refl _) hb1
  clear hb1 b0 r0
  go_wp2_with fail
  refine (HS.out _).mono ?_
  rintro e w2 ⟨rfl, hb2⟩
  have r2 := r1.below hb2 r1.2.2.2
  have b2 := below_then b1 (Nat.le_refl _) hb2
  clear hb2 r1 b1
  obtain ⟨c0, c1, c2, cl⟩ := id r2
  go_wp2_with fail
  clear c0 c1 c2 cl
  have rW := RegAt.new w2 24 a0 a1 a2
  have b2' := b2.alloc b2.size (.cells #[.int .i64 a0, .int .i64 a1, .int .i64 a2] 24)
  refine (toRegister_any S T X _).mono ?_
  rintro e w3 ⟨rfl, hb3⟩
  have b3 := below_then b2' (Nat.le_refl _) hb3
  have rW3 := rW.below hb3 (by simp)
  clear hb3 b2 b2' r2 rW
  go_wp2_with fail
  refine (HI.out _).mono ?_
  rintro e w4 ⟨rfl, hb4⟩
  have b4 := below_then b3 (Nat.le_refl _) hb4
  obtain ⟨m0, m1, m2, ml⟩ := rW3.below hb4 rW3.2.2.2
  clear hb4 b3 rW3
  go_wp2_with fail
  have b4' := b4.alloc b4.size (.cells #[.int .i64 a0, .int .i64 a1, .int .i64 a2] 24)
  refine (eqRegister_same _ _ _ _).mono ?_
  rintro e w5 ⟨rfl, hb5⟩
  have b5 := below_then b4' (Nat.le_refl _) hb5
  clear hb5 b4 b4' m0 m1 m2 ml
  cases ok
  all_goals
    go_wp2
    go_ret
    exact ⟨rfl, b5⟩
theorem fnExactBackRegister_walk (S T X : Int) (w : World) (_ : (Lit.int .i64 S).wf = true) (_ : (Lit.int .i64 T).wf = true) (_ : (Lit.int .i64 X).wf = true) :
    Calls Try.prog 4 #[.agg #[.int .i64 S, .int .i64 T, .int .i64 X]] w fun e w' => e = .returned (.bool true) ∧ Below w.heap.size w w' := by
  have hs := fun w => sBack_any S T X w
  have hi := fun w => iBack_any S T X w
  obtain ⟨a, ha⟩ : ∃ a, backAns S T X = a := ⟨_, rfl⟩
  rw [ha] at hs hi
  clear ha
  obtain ⟨a0, a1, a2, ok⟩ := a
  unfold RegAns.val at *
  have HS := Lib.hid hs
  have HI := Lib.hid hi
  clear hs hi
  have r0 := RegAt.new w 23 S T X
  have b0 : Below w.heap.size w (w.alloc (.cells #[.int .i64 S, .int .i64 T, .int .i64 X] 23)) := (Below.refl _ _).alloc (Nat.le_refl _) _
  go_enter Try.func4, Try.ntmps4
  go_wp2_with fail
  refine (toRegister_any S T X _).mono ?_
  rintro e w1 ⟨rfl, hb1⟩
  have r1 := r0.below hb1 (by simp)
  have b1 := below_then b0 (Nat.le_refl _) hb1
  clear hb1 b0 r0
  go_wp2_with fail
  refine (HS.out _).mono ?_
  rintro e w2 ⟨rfl, hb2⟩
  have r2 := r1.below hb2 r1.2.2.2
  have b2 := below_then b1 (Nat.le_refl _) hb2
  clear hb2 r1 b1
  obtain ⟨c0, c1, c2, cl⟩ := id r2
  go_wp2_with fail
  clear c0 c1 c2 cl
  have rW := RegAt.new w2 24 a0 a1 a2
  have b2' := b2.alloc b2.size (.cells #[.int .i64 a0, .int .i64 a1, .int .i64 a2] 24)
  refine (toRegister_any S T X _).mono ?_
  rintro e w3 ⟨rfl, hb3⟩
  have b3 := below_then b2' (Nat.le_refl _) hb3
  have rW3 := rW.below hb3 (by simp)
  clear hb3 b2 b2' r2 rW
  go_wp2_with fail
  refine (HI.out _).mono ?_
  rintro e w4 ⟨rfl, hb4⟩
  have b4 := below_then b3 (Nat.le_refl _) hb4
  obtain ⟨m0, m1, m2, ml⟩ := rW3.below hb4 rW3.2.2.2
  clear hb4 b3 rW3
  go_wp2_with fail
  have b4' := b4.alloc b4.size (.cells #[.int .i64 a0, .int .i64 a1, .int .i64 a2] 24)
  refine (eqRegister_same _ _ _ _).mono ?_
  rintro e w5 ⟨rfl, hb5⟩
  have b5 := below_then b4' (Nat.le_refl _) hb5
  clear hb5 b4 b4' m0 m1 m2 ml
  cases ok
  all_goals
    go_wp2
    go_ret
    exact ⟨rfl, b5⟩
theorem fnExactJumpRegister_walk (S T X K : Int) (w : World) (_ : (Lit.int .i64 S).wf = true) (_ : (Lit.int .i64 T).wf = true) (_ : (Lit.int .i64 X).wf = true) (_ : (Lit.int .i64 K).wf = true) :
    Calls Try.prog 5 #[.agg #[.int .i64 S, .int .i64 T, .int .i64 X], .int .i64 K] w fun e w' => e = .returned (.bool true) ∧ Below w.heap.size w w' := by
  have hs := fun w => sJump_any S T X K w
  have hi := fun w => iJump_any S T X K w
  obtain ⟨a, ha⟩ : ∃ a, jumpAns S T X K = a := ⟨_, rfl⟩
  rw [ha] at hs hi
  clear ha
  obtain ⟨a0, a1, a2, ok⟩ := a
  unfold RegAns.val at *
  have HS := Lib.hid hs
  have HI := Lib.hid hi
  clear hs hi
  have r0 := RegAt.new w 23 S T X
  have b0 : Below w.heap.size w (w.alloc (.cells #[.int .i64 S, .int .i64 T, .int .i64 X] 23)) := (Below.refl _ _).alloc (Nat.le_refl _) _
  go_enter Try.func5, Try.ntmps5
  go_wp2_with fail
  refine (toRegister_any S T X _).mono ?_
  rintro e w1 ⟨rfl, hb1⟩
  have r1 := r0.below hb1 (by simp)
  have b1 := below_then b0 (Nat.le_refl _) hb1
  clear hb1 b0 r0
  go_wp2_with fail
  refine (HS.out _).mono ?_
  rintro e w2 ⟨rfl, hb2⟩
  have r2 := r1.below hb2 r1.2.2.2
  have b2 := below_then b1 (Nat.le_refl _) hb2
  clear hb2 r1 b1
  obtain ⟨c0, c1, c2, cl⟩ := id r2
  go_wp2_with fail
  clear c0 c1 c2 cl
  have rW := RegAt.new w2 24 a0 a1 a2
  have b2' := b2.alloc b2.size (.cells #[.int .i64 a0, .int .i64 a1, .int .i64 a2] 24)
  refine (toRegister_any S T X _).mono ?_
  rintro e w3 ⟨rfl, hb3⟩
  have b3 := below_then b2' (Nat.le_refl _) hb3
  have rW3 := rW.below hb3 (by simp)
  clear hb3 b2 b2' r2 rW
  go_wp2_with fail
  refine (HI.out _).mono ?_
  rintro e w4 ⟨rfl, hb4⟩
  have b4 := below_then b3 (Nat.le_refl _) hb4
  obtain ⟨m0, m1, m2, ml⟩ := rW3.below hb4 rW3.2.2.2
  clear hb4 b3 rW3
  go_wp2_with fail
  have b4' := b4.alloc b4.size (.cells #[.int .i64 a0, .int .i64 a1, .int .i64 a2] 24)
  refine (eqRegister_same _ _ _ _).mono ?_
  rintro e w5 ⟨rfl, hb5⟩
  have b5 := below_then b4' (Nat.le_refl _) hb5
  clear hb5 b4 b4' m0 m1 m2 ml
  cases ok
  all_goals
    go_wp2
    go_ret
    exact ⟨rfl, b5⟩
end Go.Proofs.Ytnpaigpdbjadlaa
