/- Facts on the whole program that every row asks: proved once for this seat. -/
import Derived.Test.YtcofaceadobdiaaChecked
import Derived.JoinedOf
namespace Go.Proofs.Ytcofaceadobdiaa
set_option linter.unusedVariables false
set_option maxRecDepth 1000000 in
theorem seat_words : behindMainWord (wordsSigns Try.prog.initOrder.toList) = ["cut".toList, "at".toList, "loop.example/spreadspectrum/laws.FnExactRunRegister".toList, "loop.example/spreadspectrum/laws.FnExactAddRegisters".toList, "loop.example/spreadspectrum/laws.FnExactCycleLengths".toList, "loop.example/spreadspectrum/laws.FnExactShortestRegister".toList, "loop.example/spreadspectrum/laws.FnExactMaximalSequence".toList, "loop.example/spreadspectrum/laws.FnExactIsPreferred".toList, "loop.example/spreadspectrum/laws.FnExactPreferredPairs".toList, "loop.example/spreadspectrum/laws.FnExactGoldCode".toList, "loop.example/spreadspectrum/laws.FnExactGoldFamily".toList, "loop.example/spreadspectrum/laws.FnRegisterFrom".toList, "loop.example/spreadspectrum/laws.FnStepBits".toList, "loop.example/spreadspectrum/laws.FnRunSteps".toList] := by kernel_rfl
set_option maxRecDepth 1000000 in
theorem seat_enter : Try.prog.mayEnter = true := by
  unfold Program.mayEnter
  rw [seat_words]
  kernel_rfl
set_option maxRecDepth 1000000 in
theorem seat_lifts : Try.prog.liftsFinal = false := by
  unfold Program.liftsFinal Program.headLifts
  rw [seat_words]
  kernel_rfl
set_option maxRecDepth 1000000 in
theorem seat_make : Try.prog.make = some .cut := by
  unfold Program.make Program.headLifts
  rw [seat_words]
  kernel_rfl
end Go.Proofs.Ytcofaceadobdiaa
