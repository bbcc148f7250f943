/- PeriodOf and LeadOf of both sides, with the mathematics of what comes back. -/
import Derived.Test.YtmlmpekhcnjehaaOrbLaw
import Derived.Test.YtmlmpekhcnjehaaRegWalk
namespace Go.Proofs.Ytmlmpekhcnjehaa
open Go.RowKit
theorem per_all {s t x : Nat} (h : RegN s t x) : ∃ L P : Nat, Orb s t x L P ∧ L + P ≤ 256 ∧
    (∀ w, Calls Try.prog 37 #[.agg #[.int .i64 s, .int .i64 t, .int .i64 x]] w fun e w' => e = .returned (.int .i64 (P : Nat)) ∧ Below w.heap.size w w') ∧
    (∀ w, Calls Try.prog 65 #[.agg #[.int .i64 s, .int .i64 t, .int .i64 x]] w fun e w' => e = .returned (.int .i64 (P : Nat)) ∧ Below w.heap.size w w') := by
  obtain ⟨N, hN, h0, hm⟩ := orbit_ends h
  obtain ⟨L, P, e, hi, o⟩ := orb_of h0 hm
  have p1 : (N : Int) + 1 - ((idx s t x N (stepsN s t N x) : Nat) : Int) = (P : Nat) := by rw [hi]; omega
  refine ⟨L, P, o, by omega, fun w => ?_, fun w => ?_⟩
  · have := iPeriodOf_yes s t x w h N hN h0 hm; rw [p1] at this; exact this
  · have := sPeriodOf_yes s t x w h N hN h0 hm; rw [p1] at this; exact this
end Go.Proofs.Ytmlmpekhcnjehaa
