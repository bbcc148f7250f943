/- The contracts of sequences, each side at valid and at other arguments alone; the laws' own shorthands. -/
import Derived.Test.YtohnefgjalimfaaSeqAlg
import Derived.Test.YtohnefgjalimfaaSeqFun2
namespace Go.Proofs.Ytohnefgjalimfaa
open Go.RowKit
set_option linter.unusedVariables false
theorem shiftAns_no {z : ByteArray} (k : Int) (h : seqB z = false) : shiftAns z k = noS := by unfold shiftAns; rw [h]; rfl
theorem addAns_no {a b : ByteArray} (h : pairB a b = false) : addAns a b = noS := by unfold addAns; rw [h]; rfl
theorem crossAns_no {a b : ByteArray} (k : Int) (h : pairB a b = false) : crossAns a b k = noI := by unfold crossAns; rw [h]; rfl
theorem sShift_no (z : ByteArray) (k : Int) (w : World) (hs : z.size ≤ 9223372036854775807) (h : seqB z = false) :
    Calls Try.prog 30 #[.string z, .int .i64 k] w fun e w' => e = .returned (.tuple #[.string ByteArray.empty, .bool false]) ∧ Below w.heap.size w w' := by
  have := sShift_any z k w hs; rw [shiftAns_no k h] at this; exact this
theorem sShift_yes (z : ByteArray) (k : Int) (w : World) (h : seqB z = true) :
    Calls Try.prog 30 #[.string z, .int .i64 k] w fun e w' => e = .returned (.tuple #[.string (shift z k), .bool true]) ∧ Below w.heap.size w w' := by
  have := sShift_any z k w (by have := size_le h; omega); rw [shiftAns_yes k h] at this; exact this
theorem iAdd_no (a b : ByteArray) (w : World) (ha : a.size ≤ 9223372036854775807) (hb : b.size ≤ 9223372036854775807) (h : pairB a b = false) :
    Calls Try.prog 34 #[.string a, .string b] w fun e w' => e = .returned (.tuple #[.string ByteArray.empty, .bool false]) ∧ Below w.heap.size w w' := by
  have := iAdd_any a b w ha hb; rw [addAns_no h] at this; exact this
theorem sAdd_no (a b : ByteArray) (w : World) (ha : a.size ≤ 9223372036854775807) (hb : b.size ≤ 9223372036854775807) (h : pairB a b = false) :
    Calls Try.prog 35 #[.string a, .string b] w fun e w' => e = .returned (.tuple #[.string ByteArray.empty, .bool false]) ∧ Below w.heap.size w w' := by
  have := sAdd_any a b w ha hb; rw [addAns_no h] at this; exact this
theorem sAdd_yes (a b : ByteArray) (w : World) (h : pairB a b = true) :
    Calls Try.prog 35 #[.string a, .string b] w fun e w' => e = .returned (.tuple #[.string (addS a b), .bool true]) ∧ Below w.heap.size w w' := by
  have h' := (pairB_iff a b).1 h
  have := sAdd_any a b w (by have := size_le h'.1; omega) (by have := size_le h'.2.1; omega); rw [addAns_yes h] at this; exact this
theorem iCross_no (a b : ByteArray) (k : Int) (w : World) (ha : a.size ≤ 9223372036854775807) (hb : b.size ≤ 9223372036854775807) (h : pairB a b = false) :
    Calls Try.prog 42 #[.string a, .string b, .int .i64 k] w fun e w' => e = .returned (.tuple #[.int .i64 0, .bool false]) ∧ Below w.heap.size w w' := by
  have := iCross_any a b k w ha hb; rw [crossAns_no k h] at this; exact this
theorem iCross_yes' (a b : ByteArray) (k : Int) (w : World) (h : pairB a b = true) :
    Calls Try.prog 42 #[.string a, .string b, .int .i64 k] w fun e w' => e = .returned (.tuple #[.int .i64 (crossN a b (modN k b.size)), .bool true]) ∧ Below w.heap.size w w' := iCross_yes a b k w h
theorem sCross_no (a b : ByteArray) (k : Int) (w : World) (ha : a.size ≤ 9223372036854775807) (hb : b.size ≤ 9223372036854775807) (h : pairB a b = false) :
    Calls Try.prog 43 #[.string a, .string b, .int .i64 k] w fun e w' => e = .returned (.tuple #[.int .i64 0, .bool false]) ∧ Below w.heap.size w w' := by
  have := sCross_any a b k w ha hb; rw [crossAns_no k h] at this; exact this
theorem sCross_yes (a b : ByteArray) (k : Int) (w : World) (h : pairB a b = true) :
    Calls Try.prog 43 #[.string a, .string b, .int .i64 k] w fun e w' => e = .returned (.tuple #[.int .i64 (crossN a b (modN k b.size)), .bool true]) ∧ Below w.heap.size w w' := by
  have h' := (pairB_iff a b).1 h
  have := sCross_any a b k w (by have := size_le h'.1; omega) (by have := size_le h'.2.1; omega); rw [crossAns_yes k h] at this; exact this
theorem iBal_yes' (z : ByteArray) (w : World) (h : seqB z = true) :
    Calls Try.prog 44 #[.string z] w fun e w' => e = .returned (.tuple #[.int .i64 (balN z), .bool true]) ∧ Below w.heap.size w w' :=
  (iBal_yes z w h).mono fun e w' ⟨he, hw⟩ => ⟨he, hw ▸ Below.refl _ _⟩
theorem sBal_yes (z : ByteArray) (w : World) (h : seqB z = true) :
    Calls Try.prog 45 #[.string z] w fun e w' => e = .returned (.tuple #[.int .i64 (balN z), .bool true]) ∧ Below w.heap.size w w' := by
  have := sBal_any z w (by have := size_le h; omega); rw [balAns_yes h] at this; exact this
theorem sInvert_yes (z : ByteArray) (w : World) (h : seqB z = true) :
    Calls Try.prog 37 #[.string z] w fun e w' => e = .returned (.tuple #[.string (invS z), .bool true]) ∧ Below w.heap.size w w' := by
  have := sInvert_any z w (by have := size_le h; omega); rw [invAns_yes h] at this; exact this
set_option maxRecDepth 100000 in
theorem ssShift_yes (z : ByteArray) (k : Int) (w : World) (h : seqB z = true) :
    Calls Try.prog 32 #[.string z, .int .i64 k] w fun e w' => e = .returned (.string (shift z k)) ∧ Below w.heap.size w w' := by
  have HL := Lib.hid (fun w => iShift_yes z k w h)
  go_enter Try.func32, Try.ntmps32
  go_wp2_with fail
  refine (HL.out _).mono ?_
  rintro e w1 ⟨rfl, hB⟩
  go_wp2
  go_ret
  exact ⟨rfl, hB⟩
set_option maxRecDepth 100000 in
theorem ssCross_yes (a b : ByteArray) (k : Int) (w : World) (h : pairB a b = true) :
    Calls Try.prog 46 #[.string a, .string b, .int .i64 k] w fun e w' => e = .returned (.int .i64 (crossN a b (modN k b.size))) ∧ Below w.heap.size w w' := by
  have HL := Lib.hid (fun w => iCross_yes a b k w h)
  go_enter Try.func46, Try.ntmps46
  go_wp2_with fail
  refine (HL.out _).mono ?_
  rintro e w1 ⟨rfl, hB⟩
  go_wp2
  go_ret
  exact ⟨rfl, hB⟩
end Go.Proofs.Ytohnefgjalimfaa
