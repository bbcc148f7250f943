/- ssScore; and, by its import, ssPilot. -/
import Derived.Test.YtagdfohjhokgiaaPil7
import Derived.Test.YtagdfohjhokgiaaSsPilot
namespace Go.Proofs.Ytagdfohjhokgiaa
open Go.RowKit
set_option linter.unusedVariables false
set_option maxRecDepth 100000
theorem ssScore_any (v : Value) (n : Nat) (f : Nat → Int) (c : ByteArray) (g k : Int) (w : World) (h : IntsC w v n f) (hn : n ≤ 1048576) (hc : c.size ≤ 1048576) :
    Calls Try.prog 11 #[v, .agg #[.string c, .int .i64 g], .int .i64 k] w fun e w' => e = .returned (.int .i64 (scAns n f c g k).1) ∧ Below w.heap.size w w' := by
  have HI := Lib.hid (fun w h => iScoreAt_any v n f c g k w h hn hc)
  have Q0 := PilAt.new w 24 c g
  have b0 := (Below.refl w.heap.size w).alloc (Nat.le_refl _) (.cells #[.string c, .int .i64 g] 24)
  have h1 := h.below b0
  go_enter Try.func11, Try.ntmps11
  obtain ⟨c0, c1, cl⟩ := id Q0
  go_wp2_with fail
  refine (HI.out _ h1).mono ?_
  rintro e w1 ⟨rfl, b1⟩
  have b2 := below_then b0 (Nat.le_refl _) b1
  clear c0 c1 cl Q0 b1 b0 HI h1
  go_wp2
  go_ret
  exact ⟨rfl, b2⟩
end Go.Proofs.Ytagdfohjhokgiaa
