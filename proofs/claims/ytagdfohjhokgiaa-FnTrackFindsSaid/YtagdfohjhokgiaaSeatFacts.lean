/- Facts on the whole program that every row asks: proved once for this seat. -/
import Derived.Test.YtagdfohjhokgiaaChecked
import Derived.JoinedOf
namespace Go.Proofs.Ytagdfohjhokgiaa
set_option linter.unusedVariables false
set_option maxRecDepth 1000000 in
theorem seat_head : Try.prog.initOrder = String.ofList ([104, 97, 114, 110, 101, 115, 115, 32, 49, 55, 100, 48, 49, 50, 99, 97, 57, 54, 50, 51, 53, 53, 57, 49, 54, 97, 98, 55, 48, 52, 49, 54, 101, 55, 102, 50, 53, 56, 97, 99, 57, 57, 55, 50, 97, 55, 102, 48, 51, 51, 98, 51, 52, 99, 52, 102, 52, 50, 48, 57, 100, 53, 100, 102, 50, 53, 56, 51, 56, 56, 48, 56, 32, 99, 117, 116, 32, 97, 116, 32, 108, 111, 111, 112, 46, 101, 120, 97, 109, 112, 108, 101, 47, 115, 112, 114, 101, 97, 100, 115, 112, 101, 99, 116, 114, 117, 109, 47, 108, 97, 119, 115, 46, 70, 110, 83, 99, 111, 114, 101, 83, 104, 97, 112, 101, 32, 108, 111, 111, 112, 46, 101, 120, 97, 109, 112, 108, 101, 47, 115, 112, 114, 101, 97, 100, 115, 112, 101, 99, 116, 114, 117, 109, 47, 108, 97, 119, 115, 46, 70, 110, 83, 101, 97, 114, 99, 104, 70, 105, 110, 100, 115, 32, 108, 111, 111, 112, 46, 101, 120, 97, 109, 112, 108, 101, 47, 115, 112, 114, 101, 97, 100, 115, 112, 101, 99, 116, 114, 117, 109, 47, 108, 97, 119, 115, 46, 70, 110, 84, 114, 97, 99, 107, 70, 105, 110, 100, 115].map Char.ofNat) := by kernel_rfl
set_option maxRecDepth 1000000 in
theorem seat_words : behindMainWord (wordsSigns Try.prog.initOrder.toList) = [[99, 117, 116].map Char.ofNat, [97, 116].map Char.ofNat, [108, 111, 111, 112, 46, 101, 120, 97, 109, 112, 108, 101, 47, 115, 112, 114, 101, 97, 100, 115, 112, 101, 99, 116, 114, 117, 109, 47, 108, 97, 119, 115, 46, 70, 110, 83, 99, 111, 114, 101, 83, 104, 97, 112, 101].map Char.ofNat, [108, 111, 111, 112, 46, 101, 120, 97, 109, 112, 108, 101, 47, 115, 112, 114, 101, 97, 100, 115, 112, 101, 99, 116, 114, 117, 109, 47, 108, 97, 119, 115, 46, 70, 110, 83, 101, 97, 114, 99, 104, 70, 105, 110, 100, 115].map Char.ofNat, [108, 111, 111, 112, 46, 101, 120, 97, 109, 112, 108, 101, 47, 115, 112, 114, 101, 97, 100, 115, 112, 101, 99, 116, 114, 117, 109, 47, 108, 97, 119, 115, 46, 70, 110, 84, 114, 97, 99, 107, 70, 105, 110, 100, 115].map Char.ofNat] := by
  rw [seat_head, String.toList_ofList]
  kernel_rfl
set_option maxRecDepth 1000000 in
theorem seat_enter : Try.prog.mayEnter = true := by
  unfold Program.mayEnter
  rw [seat_words]
  kernel_rfl
set_option maxRecDepth 1000000 in
theorem seat_lifts : Try.prog.liftsFinal = false := by
  unfold Program.liftsFinal Program.headLifts
  rw [seat_words]
  kernel_rfl
set_option maxRecDepth 1000000 in
theorem seat_make : Try.prog.make = some .cut := by
  unfold Program.make Program.headLifts
  rw [seat_words]
  kernel_rfl
end Go.Proofs.Ytagdfohjhokgiaa
