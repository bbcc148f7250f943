/- The walks of the exact laws of PeriodOf and LeadOf. -/
import Derived.Test.YtnpaigpdbjadlabRegWalk
namespace Go.Proofs.Ytnpaigpdbjadlab
open Go.RowKit
theorem bothPeriodOf (S T X : Int) : ∃ A : Int,
    (∀ w, Calls Try.prog 15 #[.agg #[.int .i64 S, .int .i64 T, .int .i64 X]] w fun e w' => e = .returned (.int .i64 A) ∧ Below w.heap.size w w') ∧
    (∀ w, Calls Try.prog 17 #[.agg #[.int .i64 S, .int .i64 T, .int .i64 X]] w fun e w' => e = .returned (.int .i64 A) ∧ Below w.heap.size w w') := by
  cases hb : regB S T X with
  | false => exact ⟨-1, fun w => sPeriodOf_no S T X w hb, fun w => iPeriodOf_no S T X w hb⟩
  | true =>
    obtain ⟨s, t, x, rfl, rfl, rfl, h⟩ := RegN.of hb
    obtain ⟨N, hN, h0, hm⟩ := orbit_ends h
    exact ⟨_, fun w => sPeriodOf_yes s t x w h N hN h0 hm, fun w => iPeriodOf_yes s t x w h N hN h0 hm⟩
theorem fnExactPeriodOf_walk (S T X : Int) (w : World) (_ : (Lit.int .i64 S).wf = true) (_ : (Lit.int .i64 T).wf = true) (_ : (Lit.int .i64 X).wf = true) :
    Calls Try.prog 3 #[.agg #[.int .i64 S, .int .i64 T, .int .i64 X]] w fun e w' => e = .returned (.bool true) ∧ Below w.heap.size w w' := by
  obtain ⟨A, hs, hi⟩ := bothPeriodOf S T X
  have HS := Lib.hid hs
  have HI := Lib.hid hi
  clear hs hi
  have r0 := RegAt.new w 23 S T X
  have b0 : Below w.heap.size w (w.alloc (.cells #[.int .i64 S, .int .i64 T, .int .i64 X] 23)) := (Below.refl _ _).alloc (Nat.le_refl _) _
  go_enter Try.func3, Try.ntmps3
  go_wp2_with fail
  refine (toRegister_any S T X _).mono ?_
  rintro e w1 ⟨rfl, hb1⟩
  have r1 := r0.below hb1 (by simp)
  have b1 := below_then b0 (Nat.le_refl _) hb1
  clear hb1 b0 r0
  go_wp2_with fail
  refine (HS.out _).mono ?_
  rintro e w2 ⟨rfl, hb2⟩
  have r2 := r1.below hb2 r1.2.2.2
  have b2 := below_then b1 (Nat.le_refl _) hb2
  clear hb2 r1 b1
  obtain ⟨c0, c1, c2, cl⟩ := id r2
  go_wp2_with fail
  clear c0 c1 c2 cl
  refine (toRegister_any S T X _).mono ?_
  rintro e w3 ⟨rfl, hb3⟩
  have b3 := below_then b2 (Nat.le_refl _) hb3
  clear hb3 b2 r2
  go_wp2_with fail
  refine (HI.out _).mono ?_
  rintro e w4 ⟨rfl, hb4⟩
  have b4 := below_then b3 (Nat.le_refl _) hb4
  clear hb4 b3
  go_wp2
  go_ret
  exact ⟨rfl, b4⟩
theorem bothLeadOf (S T X : Int) : ∃ A : Int,
    (∀ w, Calls Try.prog 18 #[.agg #[.int .i64 S, .int .i64 T, .int .i64 X]] w fun e w' => e = .returned (.int .i64 A) ∧ Below w.heap.size w w') ∧
    (∀ w, Calls Try.prog 19 #[.agg #[.int .i64 S, .int .i64 T, .int .i64 X]] w fun e w' => e = .returned (.int .i64 A) ∧ Below w.heap.size w w') := by
  cases hb : regB S T X with
  | false => exact ⟨-1, fun w => sLeadOf_no S T X w hb, fun w => iLeadOf_no S T X w hb⟩
  | true =>
    obtain ⟨s, t, x, rfl, rfl, rfl, h⟩ := RegN.of hb
    obtain ⟨N, hN, h0, hm⟩ := orbit_ends h
    exact ⟨_, fun w => sLeadOf_yes s t x w h N hN h0 hm, fun w => iLeadOf_yes s t x w h N hN h0 hm⟩
theorem fnExactLeadOf_walk (S T X : Int) (w : World) (_ : (Lit.int .i64 S).wf = true) (_ : (Lit.int .i64 T).wf = true) (_ : (Lit.int .i64 X).wf = true) :
    Calls Try.prog 4 #[.agg #[.int .i64 S, .int .i64 T, .int .i64 X]] w fun e w' => e = .returned (.bool true) ∧ Below w.heap.size w w' := by
  obtain ⟨A, hs, hi⟩ := bothLeadOf S T X
  have HS := Lib.hid hs
  have HI := Lib.hid hi
  clear hs hi
  have r0 := RegAt.new w 23 S T X
  have b0 : Below w.heap.size w (w.alloc (.cells #[.int .i64 S, .int .i64 T, .int .i64 X] 23)) := (Below.refl _ _).alloc (Nat.le_refl _) _
  go_enter Try.func4, Try.ntmps4
  go_wp2_with fail
  refine (toRegister_any S T X _).mono ?_
  rintro e w1 ⟨rfl, hb1⟩
  have r1 := r0.below hb1 (by simp)
  have b1 := below_then b0 (Nat.le_refl _) hb1
  clear hb1 b0 r0
  go_wp2_with fail
  refine (HS.out _).mono ?_
  rintro e w2 ⟨rfl, hb2⟩
  have r2 := r1.below hb2 r1.2.2.2
  have b2 := below_then b1 (Nat.le_refl _) hb2
  clear hb2 r1 b1
  obtain ⟨c0, c1, c2, cl⟩ := id r2
  go_wp2_with fail
  clear c0 c1 c2 cl
  refine (toRegister_any S T X _).mono ?_
  rintro e w3 ⟨rfl, hb3⟩
  have b3 := below_then b2 (Nat.le_refl _) hb3
  clear hb3 b2 r2
  go_wp2_with fail
  refine (HI.out _).mono ?_
  rintro e w4 ⟨rfl, hb4⟩
  have b4 := below_then b3 (Nat.le_refl _) hb4
  clear hb4 b3
  go_wp2
  go_ret
  exact ⟨rfl, b4⟩
end Go.Proofs.Ytnpaigpdbjadlab
