/- Facts on the whole program that every row asks: proved once for this seat. -/
import Derived.Test.YtefnabcpjggkaaaChecked
import Derived.JoinedOf
namespace Go.Proofs.Ytefnabcpjggkaaa
set_option linter.unusedVariables false
set_option maxRecDepth 1000000 in
theorem seat_head : Try.prog.initOrder = String.ofList ([104, 97, 114, 110, 101, 115, 115, 32, 49, 54, 101, 99, 50, 48, 52, 101, 48, 100, 53, 49, 51, 57, 102, 48, 99, 100, 102, 49, 100, 52, 49, 100, 54, 102, 54, 97, 54, 99, 51, 55, 102, 55, 56, 52, 48, 48, 101, 99, 49, 53, 53, 50, 48, 57, 52, 48, 98, 57, 98, 52, 51, 100, 53, 52, 54, 48, 99, 52, 49, 56, 101, 97, 32, 99, 117, 116, 32, 97, 116, 32, 108, 111, 111, 112, 46, 101, 120, 97, 109, 112, 108, 101, 47, 115, 112, 114, 101, 97, 100, 115, 112, 101, 99, 116, 114, 117, 109, 47, 108, 97, 119, 115, 46, 70, 110, 69, 120, 97, 99, 116, 68, 114, 111, 112, 83, 97, 109, 112, 108, 101, 32, 108, 111, 111, 112, 46, 101, 120, 97, 109, 112, 108, 101, 47, 115, 112, 114, 101, 97, 100, 115, 112, 101, 99, 116, 114, 117, 109, 47, 108, 97, 119, 115, 46, 70, 110, 69, 120, 97, 99, 116, 82, 101, 112, 101, 97, 116, 83, 97, 109, 112, 108, 101, 32, 108, 111, 111, 112, 46, 101, 120, 97, 109, 112, 108, 101, 47, 115, 112, 114, 101, 97, 100, 115, 112, 101, 99, 116, 114, 117, 109, 47, 108, 97, 119, 115, 46, 70, 110, 68, 114, 111, 112, 82, 101, 112, 101, 97, 116].map Char.ofNat) := by kernel_rfl
set_option maxRecDepth 1000000 in
theorem seat_words : behindMainWord (wordsSigns Try.prog.initOrder.toList) = [[99, 117, 116].map Char.ofNat, [97, 116].map Char.ofNat, [108, 111, 111, 112, 46, 101, 120, 97, 109, 112, 108, 101, 47, 115, 112, 114, 101, 97, 100, 115, 112, 101, 99, 116, 114, 117, 109, 47, 108, 97, 119, 115, 46, 70, 110, 69, 120, 97, 99, 116, 68, 114, 111, 112, 83, 97, 109, 112, 108, 101].map Char.ofNat, [108, 111, 111, 112, 46, 101, 120, 97, 109, 112, 108, 101, 47, 115, 112, 114, 101, 97, 100, 115, 112, 101, 99, 116, 114, 117, 109, 47, 108, 97, 119, 115, 46, 70, 110, 69, 120, 97, 99, 116, 82, 101, 112, 101, 97, 116, 83, 97, 109, 112, 108, 101].map Char.ofNat, [108, 111, 111, 112, 46, 101, 120, 97, 109, 112, 108, 101, 47, 115, 112, 114, 101, 97, 100, 115, 112, 101, 99, 116, 114, 117, 109, 47, 108, 97, 119, 115, 46, 70, 110, 68, 114, 111, 112, 82, 101, 112, 101, 97, 116].map Char.ofNat] := by
  rw [seat_head, String.toList_ofList]
  kernel_rfl
set_option maxRecDepth 1000000 in
theorem seat_enter : Try.prog.mayEnter = true := by
  unfold Program.mayEnter
  rw [seat_words]
  kernel_rfl
set_option maxRecDepth 1000000 in
theorem seat_lifts : Try.prog.liftsFinal = false := by
  unfold Program.liftsFinal Program.headLifts
  rw [seat_words]
  kernel_rfl
set_option maxRecDepth 1000000 in
theorem seat_make : Try.prog.make = some .cut := by
  unfold Program.make Program.headLifts
  rw [seat_words]
  kernel_rfl
end Go.Proofs.Ytefnabcpjggkaaa
