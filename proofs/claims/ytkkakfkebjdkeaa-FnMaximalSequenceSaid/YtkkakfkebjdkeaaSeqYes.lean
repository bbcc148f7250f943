/- The contracts of sequences, each side at valid and at other arguments alone; the laws' own shorthands. -/
import Derived.Test.YtkkakfkebjdkeaaSeqAlg
import Derived.Test.YtkkakfkebjdkeaaSeqFun
namespace Go.Proofs.Ytkkakfkebjdkeaa
open Go.RowKit
set_option linter.unusedVariables false
theorem shiftAns_no {z : ByteArray} (k : Int) (h : seqB z = false) : shiftAns z k = noS := by unfold shiftAns; rw [h]; rfl
theorem addAns_no {a b : ByteArray} (h : pairB a b = false) : addAns a b = noS := by unfold addAns; rw [h]; rfl
theorem crossAns_no {a b : ByteArray} (k : Int) (h : pairB a b = false) : crossAns a b k = noI := by unfold crossAns; rw [h]; rfl
theorem iAdd_no (a b : ByteArray) (w : World) (ha : a.size ≤ 9223372036854775807) (hb : b.size ≤ 9223372036854775807) (h : pairB a b = false) :
    Calls Try.prog 28 #[.string a, .string b] w fun e w' => e = .returned (.tuple #[.string ByteArray.empty, .bool false]) ∧ Below w.heap.size w w' := by
  have := iAdd_any a b w ha hb; rw [addAns_no h] at this; exact this
theorem iCross_no (a b : ByteArray) (k : Int) (w : World) (ha : a.size ≤ 9223372036854775807) (hb : b.size ≤ 9223372036854775807) (h : pairB a b = false) :
    Calls Try.prog 105 #[.string a, .string b, .int .i64 k] w fun e w' => e = .returned (.tuple #[.int .i64 0, .bool false]) ∧ Below w.heap.size w w' := by
  have := iCross_any a b k w ha hb; rw [crossAns_no k h] at this; exact this
theorem iCross_yes' (a b : ByteArray) (k : Int) (w : World) (h : pairB a b = true) :
    Calls Try.prog 105 #[.string a, .string b, .int .i64 k] w fun e w' => e = .returned (.tuple #[.int .i64 (crossN a b (modN k b.size)), .bool true]) ∧ Below w.heap.size w w' := iCross_yes a b k w h
theorem iBal_yes' (z : ByteArray) (w : World) (h : seqB z = true) :
    Calls Try.prog 54 #[.string z] w fun e w' => e = .returned (.tuple #[.int .i64 (balN z), .bool true]) ∧ Below w.heap.size w w' :=
  (iBal_yes z w h).mono fun e w' ⟨he, hw⟩ => ⟨he, hw ▸ Below.refl _ _⟩
set_option maxRecDepth 100000 in
theorem ssShift_yes (z : ByteArray) (k : Int) (w : World) (h : seqB z = true) :
    Calls Try.prog 22 #[.string z, .int .i64 k] w fun e w' => e = .returned (.string (shift z k)) ∧ Below w.heap.size w w' := by
  have HL := Lib.hid (fun w => iShift_yes z k w h)
  go_enter Try.func22, Try.ntmps22
  go_wp2_with fail
  refine (HL.out _).mono ?_
  rintro e w1 ⟨rfl, hB⟩
  go_wp2
  go_ret
  exact ⟨rfl, hB⟩
end Go.Proofs.Ytkkakfkebjdkeaa
