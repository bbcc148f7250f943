/- strings.Repeat at this program, for seven noughts. -/
import Derived.Test.YtabokoodpobnnaaDoorClone
namespace Go.Proofs.YtabokoodpobnnaaDoor
open Go.RowKit
set_option linter.unusedVariables false
set_option maxRecDepth 100000
theorem mul17_any (w : World) : Calls Tryd.prog 71 #[.int .u64 1, .int .u64 7] w fun e w' => e = .returned (.tuple #[.int .u64 0, .int .u64 7]) ∧ w = w' := by
  go_enter Tryd.func71, Tryd.ntmps71
  go_wp2
  go_ret2
  exact ⟨by kernel_rfl, rfl⟩
/-- Seven noughts. -/
theorem rep0_any (w : World) : Calls Tryd.prog 32 #[.string ⟨#[48]⟩, .int .i64 7] w fun e w' => e = .returned (.string ⟨#[48, 48, 48, 48, 48, 48, 48]⟩) ∧ w = w' := by
  have HM := Lib.hid mul17_any
  go_enter Tryd.func32, Tryd.ntmps32
  go_wp2_with fail
  refine (HM.out _).mono ?_
  rintro e w1 ⟨rfl, rfl⟩
  go_wp2_with fail
  refine (prefix_any _ _ _).mono ?_
  rintro e w1 ⟨rfl, rfl⟩
  generalize hb : preB _ _ = bb
  obtain rfl : bb = false := by rw [← hb]; kernel_rfl
  clear hb
  go_wp2_with fail
  refine (prefix_any _ _ _).mono ?_
  rintro e w1 ⟨rfl, rfl⟩
  generalize hb : preB _ _ = bb
  obtain rfl : bb = false := by rw [← hb]; kernel_rfl
  clear hb
  go_wp2_with fail
  refine (prefix_any _ _ _).mono ?_
  rintro e w1 ⟨rfl, rfl⟩
  generalize hb : preB _ _ = bb
  obtain rfl : bb = true := by rw [← hb]; kernel_rfl
  clear hb
  go_wp2
  go_ret
  exact ⟨by kernel_rfl, rfl⟩
end Go.Proofs.YtabokoodpobnnaaDoor
