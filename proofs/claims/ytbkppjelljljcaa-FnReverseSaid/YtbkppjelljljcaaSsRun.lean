/- ssRun. -/
import Derived.Test.YtbkppjelljljcaaRunReg
namespace Go.Proofs.Ytbkppjelljljcaa
open Go.RowKit
set_option linter.unusedVariables false
set_option maxRecDepth 100000 in
theorem ssRun_any (s t x n : Nat) (w : World) (h : RegN s t x) (hn : n ≤ 600) :
    Calls Try.prog 21 #[.agg #[.int .i64 s, .int .i64 t, .int .i64 x], .int .i64 n] w fun e w' => e = .returned (.string (runS s t x n)) ∧ Below w.heap.size w w' := by
  have HR := Lib.hid (fun w => iRun_yes s t x n w h hn)
  obtain ⟨Y, hY⟩ : ∃ Y, runS s t x n = Y := ⟨_, rfl⟩
  rw [hY] at HR ⊢
  clear hY
  go_enter Try.func21, Try.ntmps21
  go_wp2_with fail
  refine (HR.out _).mono ?_
  rintro e w1 ⟨rfl, hb1⟩
  have b1 := below_then ((Below.refl w.heap.size w).alloc (Nat.le_refl _) (.cells #[.int .i64 s, .int .i64 t, .int .i64 x] 24)) (Nat.le_refl _) hb1
  go_wp2
  go_ret
  exact ⟨rfl, b1⟩
end Go.Proofs.Ytbkppjelljljcaa
