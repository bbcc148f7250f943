/- Facts on the whole program that every row asks: proved once for this seat. -/
import Derived.Test.YtdmpbcbbbjceiaaDoorChecked
import Derived.JoinedOf
namespace Go.Proofs.YtdmpbcbbbjceiaaDoor
set_option linter.unusedVariables false
set_option maxRecDepth 1000000 in
theorem seat_head : Tryd.prog.initOrder = String.ofList ([104, 97, 114, 110, 101, 115, 115, 32, 98, 101, 49, 99, 98, 51, 56, 52, 53, 55, 56, 99, 54, 100, 57, 100, 51, 56, 50, 50, 50, 99, 101, 55, 99, 52, 102, 100, 97, 48, 100, 98, 50, 56, 56, 100, 57, 101, 56, 50, 55, 101, 57, 100, 97, 99, 100, 54, 50, 55, 56, 48, 57, 56, 97, 100, 101, 53, 56, 51, 98, 51, 97, 57, 32, 99, 117, 116, 32, 97, 116, 32, 108, 111, 111, 112, 46, 101, 120, 97, 109, 112, 108, 101, 47, 115, 112, 114, 101, 97, 100, 115, 112, 101, 99, 116, 114, 117, 109, 47, 108, 97, 119, 115, 46, 70, 110, 69, 120, 97, 99, 116, 72, 97, 109, 109, 105, 110, 103, 69, 110, 99, 111, 100, 101, 32, 108, 111, 111, 112, 46, 101, 120, 97, 109, 112, 108, 101, 47, 115, 112, 114, 101, 97, 100, 115, 112, 101, 99, 116, 114, 117, 109, 47, 108, 97, 119, 115, 46, 70, 110, 69, 120, 97, 99, 116, 72, 97, 109, 109, 105, 110, 103, 68, 101, 99, 111, 100, 101].map Char.ofNat) := by kernel_rfl
set_option maxRecDepth 1000000 in
theorem seat_words : behindMainWord (wordsSigns Tryd.prog.initOrder.toList) = [[99, 117, 116].map Char.ofNat, [97, 116].map Char.ofNat, [108, 111, 111, 112, 46, 101, 120, 97, 109, 112, 108, 101, 47, 115, 112, 114, 101, 97, 100, 115, 112, 101, 99, 116, 114, 117, 109, 47, 108, 97, 119, 115, 46, 70, 110, 69, 120, 97, 99, 116, 72, 97, 109, 109, 105, 110, 103, 69, 110, 99, 111, 100, 101].map Char.ofNat, [108, 111, 111, 112, 46, 101, 120, 97, 109, 112, 108, 101, 47, 115, 112, 114, 101, 97, 100, 115, 112, 101, 99, 116, 114, 117, 109, 47, 108, 97, 119, 115, 46, 70, 110, 69, 120, 97, 99, 116, 72, 97, 109, 109, 105, 110, 103, 68, 101, 99, 111, 100, 101].map Char.ofNat] := by
  rw [seat_head, String.toList_ofList]
  kernel_rfl
set_option maxRecDepth 1000000 in
theorem seat_enter : Tryd.prog.mayEnter = true := by
  unfold Program.mayEnter
  rw [seat_words]
  kernel_rfl
set_option maxRecDepth 1000000 in
theorem seat_lifts : Tryd.prog.liftsFinal = false := by
  unfold Program.liftsFinal Program.headLifts
  rw [seat_words]
  kernel_rfl
set_option maxRecDepth 1000000 in
theorem seat_make : Tryd.prog.make = some .cut := by
  unfold Program.make Program.headLifts
  rw [seat_words]
  kernel_rfl
end Go.Proofs.YtdmpbcbbbjceiaaDoor
