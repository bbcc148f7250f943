/- Facts on the whole program that every row asks: proved once for this seat. -/
import Derived.Test.YtijoemoiimfffaaChecked
import Derived.JoinedOf
namespace Go.Proofs.Ytijoemoiimfffaa
set_option linter.unusedVariables false
set_option maxRecDepth 1000000 in
theorem seat_words : behindMainWord (wordsSigns Try.prog.initOrder.toList) = ["cut".toList, "at".toList, "loop.example/spreadspectrum/laws.FnExactGoldBound".toList, "loop.example/spreadspectrum/laws.FnExactWalshCode".toList, "loop.example/spreadspectrum/laws.FnExactWalshIndex".toList, "loop.example/spreadspectrum/laws.FnExactWalshTransform".toList, "loop.example/spreadspectrum/laws.FnExactTreeCode".toList, "loop.example/spreadspectrum/laws.FnExactTreeConflict".toList, "loop.example/spreadspectrum/laws.FnExactAllocateTree".toList, "loop.example/spreadspectrum/laws.FnExactFreePaths".toList, "loop.example/spreadspectrum/laws.FnExactBarkerValid".toList, "loop.example/spreadspectrum/laws.FnExactFirstBarker".toList, "loop.example/spreadspectrum/laws.FnExactWorstCross".toList, "loop.example/spreadspectrum/laws.FnExactRunLengths".toList] := by kernel_rfl
set_option maxRecDepth 1000000 in
theorem seat_enter : Try.prog.mayEnter = true := by
  unfold Program.mayEnter
  rw [seat_words]
  kernel_rfl
set_option maxRecDepth 1000000 in
theorem seat_lifts : Try.prog.liftsFinal = false := by
  unfold Program.liftsFinal Program.headLifts
  rw [seat_words]
  kernel_rfl
set_option maxRecDepth 1000000 in
theorem seat_make : Try.prog.make = some .cut := by
  unfold Program.make Program.headLifts
  rw [seat_words]
  kernel_rfl
end Go.Proofs.Ytijoemoiimfffaa
