/- ssPilot. -/
import Derived.Test.YtagdfohjhokgiaaPil13
namespace Go.Proofs.Ytagdfohjhokgiaa
open Go.RowKit
set_option linter.unusedVariables false
set_option maxRecDepth 100000
theorem ssPilot_any (c : ByteArray) (g k q a : Int) (w : World) (hc : c.size ≤ 1048576) :
    Calls Try.prog 8 #[.agg #[.string c, .int .i64 g], .int .i64 k, .int .i64 q, .int .i64 a] w fun e w' => ∃ u, e = .returned u ∧ OF w' w.heap.size u (psN c g k q a) (psF c g k a) ∧ Below w.heap.size w w' := by
  have HI := Lib.hid (fun w => iPSig_any c g k q a w hc)
  have Q0 := PilAt.new w 24 c g
  have b0 := (Below.refl w.heap.size w).alloc (Nat.le_refl _) (.cells #[.string c, .int .i64 g] 24)
  go_enter Try.func8, Try.ntmps8
  obtain ⟨c0, c1, cl⟩ := id Q0
  go_wp2_with fail
  refine (HI.out _).mono ?_
  rintro e w1 ⟨u, rfl, O1, b1⟩
  have b2 := below_then b0 (Nat.le_refl _) b1
  have O2 := O1.mono b0.size
  clear c0 c1 cl Q0 O1 b1 b0 HI
  go_wp2
  go_ret
  exact ⟨u, rfl, O2, b2⟩
end Go.Proofs.Ytagdfohjhokgiaa
