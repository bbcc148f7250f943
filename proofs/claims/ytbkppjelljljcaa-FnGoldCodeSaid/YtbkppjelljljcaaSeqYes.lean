/- The contracts of sequences, each side at valid and at other arguments alone; the laws' own shorthands. -/
import Derived.Test.YtbkppjelljljcaaSeqAlg
import Derived.Test.YtbkppjelljljcaaSeqFun
namespace Go.Proofs.Ytbkppjelljljcaa
open Go.RowKit
set_option linter.unusedVariables false
theorem shiftAns_no {z : ByteArray} (k : Int) (h : seqB z = false) : shiftAns z k = noS := by unfold shiftAns; rw [h]; rfl
theorem addAns_no {a b : ByteArray} (h : pairB a b = false) : addAns a b = noS := by unfold addAns; rw [h]; rfl
theorem crossAns_no {a b : ByteArray} (k : Int) (h : pairB a b = false) : crossAns a b k = noI := by unfold crossAns; rw [h]; rfl
theorem iAdd_no (a b : ByteArray) (w : World) (ha : a.size ≤ 9223372036854775807) (hb : b.size ≤ 9223372036854775807) (h : pairB a b = false) :
    Calls Try.prog 15 #[.string a, .string b] w fun e w' => e = .returned (.tuple #[.string ByteArray.empty, .bool false]) ∧ Below w.heap.size w w' := by
  have := iAdd_any a b w ha hb; rw [addAns_no h] at this; exact this
set_option maxRecDepth 100000 in
theorem ssShift_yes (z : ByteArray) (k : Int) (w : World) (h : seqB z = true) :
    Calls Try.prog 16 #[.string z, .int .i64 k] w fun e w' => e = .returned (.string (shift z k)) ∧ Below w.heap.size w w' := by
  have HL := Lib.hid (fun w => iShift_yes z k w h)
  go_enter Try.func16, Try.ntmps16
  go_wp2_with fail
  refine (HL.out _).mono ?_
  rintro e w1 ⟨rfl, hB⟩
  go_wp2
  go_ret
  exact ⟨rfl, hB⟩
end Go.Proofs.Ytbkppjelljljcaa
