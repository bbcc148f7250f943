/- PeriodOf and LeadOf of both sides, with the mathematics of what comes back. -/
import Derived.Test.YtmmonhagceacjaaOrbLaw
import Derived.Test.YtmmonhagceacjaaRegWalk
namespace Go.Proofs.Ytmmonhagceacjaa
open Go.RowKit
theorem orb_all {s t x : Nat} (h : RegN s t x) : ∃ L P : Nat, Orb s t x L P ∧ L + P ≤ 256 ∧
    (∀ w, Calls Try.prog 26 #[.agg #[.int .i64 s, .int .i64 t, .int .i64 x]] w fun e w' => e = .returned (.int .i64 (P : Nat)) ∧ Below w.heap.size w w') ∧
    (∀ w, Calls Try.prog 27 #[.agg #[.int .i64 s, .int .i64 t, .int .i64 x]] w fun e w' => e = .returned (.int .i64 (L : Nat)) ∧ Below w.heap.size w w') ∧
    (∀ w, Calls Try.prog 28 #[.agg #[.int .i64 s, .int .i64 t, .int .i64 x]] w fun e w' => e = .returned (.int .i64 (P : Nat)) ∧ Below w.heap.size w w') ∧
    (∀ w, Calls Try.prog 29 #[.agg #[.int .i64 s, .int .i64 t, .int .i64 x]] w fun e w' => e = .returned (.int .i64 (L : Nat)) ∧ Below w.heap.size w w') := by
  obtain ⟨N, hN, h0, hm⟩ := orbit_ends h
  obtain ⟨L, P, e, hi, o⟩ := orb_of h0 hm
  have p1 : (N : Int) + 1 - ((idx s t x N (stepsN s t N x) : Nat) : Int) = (P : Nat) := by rw [hi]; omega
  have l1 : ((idx s t x N (stepsN s t N x) : Nat) : Int) - 1 = (L : Nat) := by rw [hi]; omega
  refine ⟨L, P, o, by omega, fun w => ?_, fun w => ?_, fun w => ?_, fun w => ?_⟩
  · have := iPeriodOf_yes s t x w h N hN h0 hm; rw [p1] at this; exact this
  · have := iLeadOf_yes s t x w h N hN h0 hm; rw [l1] at this; exact this
  · have := sPeriodOf_yes s t x w h N hN h0 hm; rw [p1] at this; exact this
  · have := sLeadOf_yes s t x w h N hN h0 hm; rw [l1] at this; exact this
end Go.Proofs.Ytmmonhagceacjaa
