/- Facts on the whole program that every row asks: proved once for this seat. -/
import Derived.Test.YtgkiilpcobgboaaChecked
import Derived.JoinedOf
namespace Go.Proofs.Ytgkiilpcobgboaa
set_option linter.unusedVariables false
set_option maxRecDepth 1000000 in
theorem seat_head : Try.prog.initOrder = String.ofList ([104, 97, 114, 110, 101, 115, 115, 32, 52, 55, 50, 98, 50, 54, 52, 52, 100, 48, 49, 52, 48, 53, 97, 100, 48, 53, 50, 57, 99, 50, 100, 52, 49, 53, 48, 49, 49, 102, 57, 101, 51, 57, 49, 50, 53, 52, 52, 52, 97, 100, 56, 102, 55, 52, 51, 50, 101, 57, 97, 97, 54, 102, 52, 52, 57, 50, 52, 101, 48, 51, 102, 98, 32, 99, 117, 116, 32, 97, 116, 32, 108, 111, 111, 112, 46, 101, 120, 97, 109, 112, 108, 101, 47, 115, 112, 114, 101, 97, 100, 115, 112, 101, 99, 116, 114, 117, 109, 47, 108, 97, 119, 115, 46, 70, 110, 65, 108, 108, 111, 99, 97, 116, 101, 32, 108, 111, 111, 112, 46, 101, 120, 97, 109, 112, 108, 101, 47, 115, 112, 114, 101, 97, 100, 115, 112, 101, 99, 116, 114, 117, 109, 47, 108, 97, 119, 115, 46, 70, 110, 70, 114, 101, 101, 80, 97, 116, 104, 115].map Char.ofNat) := by kernel_rfl
set_option maxRecDepth 1000000 in
theorem seat_words : behindMainWord (wordsSigns Try.prog.initOrder.toList) = [[99, 117, 116].map Char.ofNat, [97, 116].map Char.ofNat, [108, 111, 111, 112, 46, 101, 120, 97, 109, 112, 108, 101, 47, 115, 112, 114, 101, 97, 100, 115, 112, 101, 99, 116, 114, 117, 109, 47, 108, 97, 119, 115, 46, 70, 110, 65, 108, 108, 111, 99, 97, 116, 101].map Char.ofNat, [108, 111, 111, 112, 46, 101, 120, 97, 109, 112, 108, 101, 47, 115, 112, 114, 101, 97, 100, 115, 112, 101, 99, 116, 114, 117, 109, 47, 108, 97, 119, 115, 46, 70, 110, 70, 114, 101, 101, 80, 97, 116, 104, 115].map Char.ofNat] := by
  rw [seat_head, String.toList_ofList]
  kernel_rfl
set_option maxRecDepth 1000000 in
theorem seat_enter : Try.prog.mayEnter = true := by
  unfold Program.mayEnter
  rw [seat_words]
  kernel_rfl
set_option maxRecDepth 1000000 in
theorem seat_lifts : Try.prog.liftsFinal = false := by
  unfold Program.liftsFinal Program.headLifts
  rw [seat_words]
  kernel_rfl
set_option maxRecDepth 1000000 in
theorem seat_make : Try.prog.make = some .cut := by
  unfold Program.make Program.headLifts
  rw [seat_words]
  kernel_rfl
end Go.Proofs.Ytgkiilpcobgboaa
