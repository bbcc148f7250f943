/- The walks of the exact laws of PeriodOf and LeadOf. -/
import Derived.Test.YtmlmpekhcnjehaaRegWalk
namespace Go.Proofs.Ytmlmpekhcnjehaa
open Go.RowKit
theorem bothPeriodOf (S T X : Int) : ∃ A : Int,
    (∀ w, Calls Try.prog 65 #[.agg #[.int .i64 S, .int .i64 T, .int .i64 X]] w fun e w' => e = .returned (.int .i64 A) ∧ Below w.heap.size w w') ∧
    (∀ w, Calls Try.prog 37 #[.agg #[.int .i64 S, .int .i64 T, .int .i64 X]] w fun e w' => e = .returned (.int .i64 A) ∧ Below w.heap.size w w') := by
  cases hb : regB S T X with
  | false => exact ⟨-1, fun w => sPeriodOf_no S T X w hb, fun w => iPeriodOf_no S T X w hb⟩
  | true =>
    obtain ⟨s, t, x, rfl, rfl, rfl, h⟩ := RegN.of hb
    obtain ⟨N, hN, h0, hm⟩ := orbit_ends h
    exact ⟨_, fun w => sPeriodOf_yes s t x w h N hN h0 hm, fun w => iPeriodOf_yes s t x w h N hN h0 hm⟩
end Go.Proofs.Ytmlmpekhcnjehaa
