/- Facts on the whole program that every row asks: proved once for this seat. -/
import Derived.Test.YtbkppjelljljcaaChecked
import Derived.JoinedOf
namespace Go.Proofs.Ytbkppjelljljcaa
set_option linter.unusedVariables false
set_option maxRecDepth 1000000 in
theorem seat_head : Try.prog.initOrder = String.ofList ([104, 97, 114, 110, 101, 115, 115, 32, 101, 49, 52, 98, 52, 50, 52, 55, 54, 102, 52, 99, 99, 56, 100, 98, 100, 101, 100, 51, 98, 102, 101, 52, 49, 97, 57, 98, 99, 48, 55, 99, 50, 53, 98, 98, 98, 48, 51, 54, 97, 52, 50, 56, 100, 53, 54, 102, 51, 54, 98, 55, 101, 49, 102, 98, 57, 98, 99, 101, 54, 48, 57, 97, 32, 99, 117, 116, 32, 97, 116, 32, 108, 111, 111, 112, 46, 101, 120, 97, 109, 112, 108, 101, 47, 115, 112, 114, 101, 97, 100, 115, 112, 101, 99, 116, 114, 117, 109, 47, 108, 97, 119, 115, 46, 70, 110, 69, 120, 97, 99, 116, 65, 100, 100, 82, 101, 103, 105, 115, 116, 101, 114, 115, 32, 108, 111, 111, 112, 46, 101, 120, 97, 109, 112, 108, 101, 47, 115, 112, 114, 101, 97, 100, 115, 112, 101, 99, 116, 114, 117, 109, 47, 108, 97, 119, 115, 46, 70, 110, 71, 111, 108, 100, 67, 111, 100, 101, 32, 108, 111, 111, 112, 46, 101, 120, 97, 109, 112, 108, 101, 47, 115, 112, 114, 101, 97, 100, 115, 112, 101, 99, 116, 114, 117, 109, 47, 108, 97, 119, 115, 46, 70, 110, 82, 101, 118, 101, 114, 115, 101].map Char.ofNat) := by kernel_rfl
set_option maxRecDepth 1000000 in
theorem seat_words : behindMainWord (wordsSigns Try.prog.initOrder.toList) = [[99, 117, 116].map Char.ofNat, [97, 116].map Char.ofNat, [108, 111, 111, 112, 46, 101, 120, 97, 109, 112, 108, 101, 47, 115, 112, 114, 101, 97, 100, 115, 112, 101, 99, 116, 114, 117, 109, 47, 108, 97, 119, 115, 46, 70, 110, 69, 120, 97, 99, 116, 65, 100, 100, 82, 101, 103, 105, 115, 116, 101, 114, 115].map Char.ofNat, [108, 111, 111, 112, 46, 101, 120, 97, 109, 112, 108, 101, 47, 115, 112, 114, 101, 97, 100, 115, 112, 101, 99, 116, 114, 117, 109, 47, 108, 97, 119, 115, 46, 70, 110, 71, 111, 108, 100, 67, 111, 100, 101].map Char.ofNat, [108, 111, 111, 112, 46, 101, 120, 97, 109, 112, 108, 101, 47, 115, 112, 114, 101, 97, 100, 115, 112, 101, 99, 116, 114, 117, 109, 47, 108, 97, 119, 115, 46, 70, 110, 82, 101, 118, 101, 114, 115, 101].map Char.ofNat] := by
  rw [seat_head, String.toList_ofList]
  kernel_rfl
set_option maxRecDepth 1000000 in
theorem seat_enter : Try.prog.mayEnter = true := by
  unfold Program.mayEnter
  rw [seat_words]
  kernel_rfl
set_option maxRecDepth 1000000 in
theorem seat_lifts : Try.prog.liftsFinal = false := by
  unfold Program.liftsFinal Program.headLifts
  rw [seat_words]
  kernel_rfl
set_option maxRecDepth 1000000 in
theorem seat_make : Try.prog.make = some .cut := by
  unfold Program.make Program.headLifts
  rw [seat_words]
  kernel_rfl
end Go.Proofs.Ytbkppjelljljcaa
