/-
  No cell of these rows narrows 'for every input' (looked for: loops, veiled, ifaces, maps, wideKeys, modest, calm, conditions, laid).
  DERIVED. THE GIVEN ROWS OF THIS SEAT. 12 by the template 'for every input the law returns true; each argument reads behind the call as it read before'; 0 by the template 'total and deterministic' (their statements: YtohnefgjalimfaaTotals.lean).
  GIVEN WITH THE SEED: the statements are not yours to turn. If you find one false, say at which input.
  Laid BY PROGRAM, IN A SANDBOX (cutbox-rows.mjs): the forced cells as the released guide's own fill.sh prints them over the translation ef7dd52a964b9aa5… (all of the seat's roots in one cut). By AI agents, Wed Nov 11 2026. No macro, syntax, notation, axiom, sorry.
-/
import Derived.Test.YtohnefgjalimfaaChecked
import GoSem.Claim
import GoSem.ClaimJoined
import GoSem.ClaimMapViews
import Derived.JoinedTies
import Derived.KernelRfl
namespace Go.Proofs.Ytohnefgjalimfaa
/- THE CELL 'sum', in the pinned program and in every row, IS THE sha256 OF THE DUMP (.gsa) THAT YtohnefgjalimfaaProg.lean LOADS. Nothing in Lean hashes anything: it is a label: what it is worth is what the hold of that sum in a sandbox is worth. -/
noncomputable def Try.pinned : Pinned := { name := "ytohnefgjalimfaa", sum := "ef7dd52a964b9aa58e24479d66b06efcec54b526feb0c0542b5b66298e5e8ca6", checked := Try.checked }
namespace Rows
def none {H : Type} : Left H := { results := [], args := [] }

/-- 'laws.FnExactCrossTable': WHATEVER THE INPUT: true; the input reads as it did. -/
def fnExactCrossTableSpec : ChangeSpec := { name := "fnExactCrossTable", fn := fun _ => fun
  | [d1, d2] => { results := [.lit (.bool true)], args := [d1, d2] }
  | _ => none }
def fnExactCrossTableRow : OpenClaim := { program := "ytohnefgjalimfaa", sum := "ef7dd52a964b9aa58e24479d66b06efcec54b526feb0c0542b5b66298e5e8ca6", func := "loop.example/spreadspectrum/laws.FnExactCrossTable", spec := "fnExactCrossTable", apart := false }
def FnExactCrossTableSaid : Prop := fnExactCrossTableRow.holds Try.pinned (OpenSpec.ofChange fnExactCrossTableSpec)

/-- ITS FALSE NEIGHBOUR: 'it returns false'. Refute it at one input. -/
def fnExactCrossTableWrong : ChangeSpec := { name := "fnExactCrossTable", fn := fun _ => fun
  | [d1, d2] => { results := [.lit (.bool false)], args := [d1, d2] }
  | _ => none }
def FnExactCrossTableWrongFalsely : Prop := fnExactCrossTableRow.holds Try.pinned (OpenSpec.ofChange fnExactCrossTableWrong)

/-- 'laws.FnExactPeakOf': WHATEVER THE INPUT: true; the input reads as it did. -/
def fnExactPeakOfSpec : ChangeSpec := { name := "fnExactPeakOf", fn := fun _ => fun
  | [d1, d2] => { results := [.lit (.bool true)], args := [d1, d2] }
  | _ => none }
def fnExactPeakOfRow : OpenClaim := { program := "ytohnefgjalimfaa", sum := "ef7dd52a964b9aa58e24479d66b06efcec54b526feb0c0542b5b66298e5e8ca6", func := "loop.example/spreadspectrum/laws.FnExactPeakOf", spec := "fnExactPeakOf", apart := false }
def FnExactPeakOfSaid : Prop := fnExactPeakOfRow.holds Try.pinned (OpenSpec.ofChange fnExactPeakOfSpec)

/-- ITS FALSE NEIGHBOUR: 'it returns false'. Refute it at one input. -/
def fnExactPeakOfWrong : ChangeSpec := { name := "fnExactPeakOf", fn := fun _ => fun
  | [d1, d2] => { results := [.lit (.bool false)], args := [d1, d2] }
  | _ => none }
def FnExactPeakOfWrongFalsely : Prop := fnExactPeakOfRow.holds Try.pinned (OpenSpec.ofChange fnExactPeakOfWrong)

/-- 'laws.FnExactFirstRotation': WHATEVER THE INPUT: true; the input reads as it did. -/
def fnExactFirstRotationSpec : ChangeSpec := { name := "fnExactFirstRotation", fn := fun _ => fun
  | [d] => { results := [.lit (.bool true)], args := [d] }
  | _ => none }
def fnExactFirstRotationRow : OpenClaim := { program := "ytohnefgjalimfaa", sum := "ef7dd52a964b9aa58e24479d66b06efcec54b526feb0c0542b5b66298e5e8ca6", func := "loop.example/spreadspectrum/laws.FnExactFirstRotation", spec := "fnExactFirstRotation", apart := false }
def FnExactFirstRotationSaid : Prop := fnExactFirstRotationRow.holds Try.pinned (OpenSpec.ofChange fnExactFirstRotationSpec)

/-- ITS FALSE NEIGHBOUR: 'it returns false'. Refute it at one input. -/
def fnExactFirstRotationWrong : ChangeSpec := { name := "fnExactFirstRotation", fn := fun _ => fun
  | [d] => { results := [.lit (.bool false)], args := [d] }
  | _ => none }
def FnExactFirstRotationWrongFalsely : Prop := fnExactFirstRotationRow.holds Try.pinned (OpenSpec.ofChange fnExactFirstRotationWrong)

/-- 'laws.FnExactCrossValues': WHATEVER THE INPUT: true; the input reads as it did. -/
def fnExactCrossValuesSpec : ChangeSpec := { name := "fnExactCrossValues", fn := fun _ => fun
  | [d1, d2] => { results := [.lit (.bool true)], args := [d1, d2] }
  | _ => none }
def fnExactCrossValuesRow : OpenClaim := { program := "ytohnefgjalimfaa", sum := "ef7dd52a964b9aa58e24479d66b06efcec54b526feb0c0542b5b66298e5e8ca6", func := "loop.example/spreadspectrum/laws.FnExactCrossValues", spec := "fnExactCrossValues", recurses := true, apart := false }
def FnExactCrossValuesSaid : Prop := fnExactCrossValuesRow.holds Try.pinned (OpenSpec.ofChange fnExactCrossValuesSpec)

/-- ITS FALSE NEIGHBOUR: 'it returns false'. Refute it at one input. -/
def fnExactCrossValuesWrong : ChangeSpec := { name := "fnExactCrossValues", fn := fun _ => fun
  | [d1, d2] => { results := [.lit (.bool false)], args := [d1, d2] }
  | _ => none }
def FnExactCrossValuesWrongFalsely : Prop := fnExactCrossValuesRow.holds Try.pinned (OpenSpec.ofChange fnExactCrossValuesWrong)

/-- 'laws.FnExactRunLengths': WHATEVER THE INPUT: true; the input reads as it did. -/
def fnExactRunLengthsSpec : ChangeSpec := { name := "fnExactRunLengths", fn := fun _ => fun
  | [d] => { results := [.lit (.bool true)], args := [d] }
  | _ => none }
def fnExactRunLengthsRow : OpenClaim := { program := "ytohnefgjalimfaa", sum := "ef7dd52a964b9aa58e24479d66b06efcec54b526feb0c0542b5b66298e5e8ca6", func := "loop.example/spreadspectrum/laws.FnExactRunLengths", spec := "fnExactRunLengths", recurses := true, apart := false }
def FnExactRunLengthsSaid : Prop := fnExactRunLengthsRow.holds Try.pinned (OpenSpec.ofChange fnExactRunLengthsSpec)

/-- ITS FALSE NEIGHBOUR: 'it returns false'. Refute it at one input. -/
def fnExactRunLengthsWrong : ChangeSpec := { name := "fnExactRunLengths", fn := fun _ => fun
  | [d] => { results := [.lit (.bool false)], args := [d] }
  | _ => none }
def FnExactRunLengthsWrongFalsely : Prop := fnExactRunLengthsRow.holds Try.pinned (OpenSpec.ofChange fnExactRunLengthsWrong)

/-- 'laws.FnShift': WHATEVER THE INPUT: true; the input reads as it did. -/
def fnShiftSpec : ChangeSpec := { name := "fnShift", fn := fun _ => fun
  | [d1, d2] => { results := [.lit (.bool true)], args := [d1, d2] }
  | _ => none }
def fnShiftRow : OpenClaim := { program := "ytohnefgjalimfaa", sum := "ef7dd52a964b9aa58e24479d66b06efcec54b526feb0c0542b5b66298e5e8ca6", func := "loop.example/spreadspectrum/laws.FnShift", spec := "fnShift", apart := false }
def FnShiftSaid : Prop := fnShiftRow.holds Try.pinned (OpenSpec.ofChange fnShiftSpec)

/-- ITS FALSE NEIGHBOUR: 'it returns false'. Refute it at one input. -/
def fnShiftWrong : ChangeSpec := { name := "fnShift", fn := fun _ => fun
  | [d1, d2] => { results := [.lit (.bool false)], args := [d1, d2] }
  | _ => none }
def FnShiftWrongFalsely : Prop := fnShiftRow.holds Try.pinned (OpenSpec.ofChange fnShiftWrong)

/-- 'laws.FnAddBits': WHATEVER THE INPUT: true; the input reads as it did. -/
def fnAddBitsSpec : ChangeSpec := { name := "fnAddBits", fn := fun _ => fun
  | [d1, d2] => { results := [.lit (.bool true)], args := [d1, d2] }
  | _ => none }
def fnAddBitsRow : OpenClaim := { program := "ytohnefgjalimfaa", sum := "ef7dd52a964b9aa58e24479d66b06efcec54b526feb0c0542b5b66298e5e8ca6", func := "loop.example/spreadspectrum/laws.FnAddBits", spec := "fnAddBits", recurses := true, apart := false }
def FnAddBitsSaid : Prop := fnAddBitsRow.holds Try.pinned (OpenSpec.ofChange fnAddBitsSpec)

/-- ITS FALSE NEIGHBOUR: 'it returns false'. Refute it at one input. -/
def fnAddBitsWrong : ChangeSpec := { name := "fnAddBits", fn := fun _ => fun
  | [d1, d2] => { results := [.lit (.bool false)], args := [d1, d2] }
  | _ => none }
def FnAddBitsWrongFalsely : Prop := fnAddBitsRow.holds Try.pinned (OpenSpec.ofChange fnAddBitsWrong)

/-- 'laws.FnDecimate': WHATEVER THE INPUT: true; the input reads as it did. -/
def fnDecimateSpec : ChangeSpec := { name := "fnDecimate", fn := fun _ => fun
  | [d1, d2] => { results := [.lit (.bool true)], args := [d1, d2] }
  | _ => none }
def fnDecimateRow : OpenClaim := { program := "ytohnefgjalimfaa", sum := "ef7dd52a964b9aa58e24479d66b06efcec54b526feb0c0542b5b66298e5e8ca6", func := "loop.example/spreadspectrum/laws.FnDecimate", spec := "fnDecimate", apart := false }
def FnDecimateSaid : Prop := fnDecimateRow.holds Try.pinned (OpenSpec.ofChange fnDecimateSpec)

/-- ITS FALSE NEIGHBOUR: 'it returns false'. Refute it at one input. -/
def fnDecimateWrong : ChangeSpec := { name := "fnDecimate", fn := fun _ => fun
  | [d1, d2] => { results := [.lit (.bool false)], args := [d1, d2] }
  | _ => none }
def FnDecimateWrongFalsely : Prop := fnDecimateRow.holds Try.pinned (OpenSpec.ofChange fnDecimateWrong)

/-- 'laws.FnBalance': WHATEVER THE INPUT: true; the input reads as it did. -/
def fnBalanceSpec : ChangeSpec := { name := "fnBalance", fn := fun _ => fun
  | [d] => { results := [.lit (.bool true)], args := [d] }
  | _ => none }
def fnBalanceRow : OpenClaim := { program := "ytohnefgjalimfaa", sum := "ef7dd52a964b9aa58e24479d66b06efcec54b526feb0c0542b5b66298e5e8ca6", func := "loop.example/spreadspectrum/laws.FnBalance", spec := "fnBalance", recurses := true, apart := false }
def FnBalanceSaid : Prop := fnBalanceRow.holds Try.pinned (OpenSpec.ofChange fnBalanceSpec)

/-- ITS FALSE NEIGHBOUR: 'it returns false'. Refute it at one input. -/
def fnBalanceWrong : ChangeSpec := { name := "fnBalance", fn := fun _ => fun
  | [d] => { results := [.lit (.bool false)], args := [d] }
  | _ => none }
def FnBalanceWrongFalsely : Prop := fnBalanceRow.holds Try.pinned (OpenSpec.ofChange fnBalanceWrong)

/-- 'laws.FnCrossTurned': WHATEVER THE INPUT: true; the input reads as it did. -/
def fnCrossTurnedSpec : ChangeSpec := { name := "fnCrossTurned", fn := fun _ => fun
  | [d1, d2] => { results := [.lit (.bool true)], args := [d1, d2] }
  | _ => none }
def fnCrossTurnedRow : OpenClaim := { program := "ytohnefgjalimfaa", sum := "ef7dd52a964b9aa58e24479d66b06efcec54b526feb0c0542b5b66298e5e8ca6", func := "loop.example/spreadspectrum/laws.FnCrossTurned", spec := "fnCrossTurned", recurses := true, apart := false }
def FnCrossTurnedSaid : Prop := fnCrossTurnedRow.holds Try.pinned (OpenSpec.ofChange fnCrossTurnedSpec)

/-- ITS FALSE NEIGHBOUR: 'it returns false'. Refute it at one input. -/
def fnCrossTurnedWrong : ChangeSpec := { name := "fnCrossTurned", fn := fun _ => fun
  | [d1, d2] => { results := [.lit (.bool false)], args := [d1, d2] }
  | _ => none }
def FnCrossTurnedWrongFalsely : Prop := fnCrossTurnedRow.holds Try.pinned (OpenSpec.ofChange fnCrossTurnedWrong)

/-- 'laws.FnAperiodic': WHATEVER THE INPUT: true; the input reads as it did. -/
def fnAperiodicSpec : ChangeSpec := { name := "fnAperiodic", fn := fun _ => fun
  | [d] => { results := [.lit (.bool true)], args := [d] }
  | _ => none }
def fnAperiodicRow : OpenClaim := { program := "ytohnefgjalimfaa", sum := "ef7dd52a964b9aa58e24479d66b06efcec54b526feb0c0542b5b66298e5e8ca6", func := "loop.example/spreadspectrum/laws.FnAperiodic", spec := "fnAperiodic", apart := false }
def FnAperiodicSaid : Prop := fnAperiodicRow.holds Try.pinned (OpenSpec.ofChange fnAperiodicSpec)

/-- ITS FALSE NEIGHBOUR: 'it returns false'. Refute it at one input. -/
def fnAperiodicWrong : ChangeSpec := { name := "fnAperiodic", fn := fun _ => fun
  | [d] => { results := [.lit (.bool false)], args := [d] }
  | _ => none }
def FnAperiodicWrongFalsely : Prop := fnAperiodicRow.holds Try.pinned (OpenSpec.ofChange fnAperiodicWrong)

/-- 'laws.FnReverseBits': WHATEVER THE INPUT: true; the input reads as it did. -/
def fnReverseBitsSpec : ChangeSpec := { name := "fnReverseBits", fn := fun _ => fun
  | [d1, d2] => { results := [.lit (.bool true)], args := [d1, d2] }
  | _ => none }
def fnReverseBitsRow : OpenClaim := { program := "ytohnefgjalimfaa", sum := "ef7dd52a964b9aa58e24479d66b06efcec54b526feb0c0542b5b66298e5e8ca6", func := "loop.example/spreadspectrum/laws.FnReverseBits", spec := "fnReverseBits", recurses := true, apart := false }
def FnReverseBitsSaid : Prop := fnReverseBitsRow.holds Try.pinned (OpenSpec.ofChange fnReverseBitsSpec)

/-- ITS FALSE NEIGHBOUR: 'it returns false'. Refute it at one input. -/
def fnReverseBitsWrong : ChangeSpec := { name := "fnReverseBits", fn := fun _ => fun
  | [d1, d2] => { results := [.lit (.bool false)], args := [d1, d2] }
  | _ => none }
def FnReverseBitsWrongFalsely : Prop := fnReverseBitsRow.holds Try.pinned (OpenSpec.ofChange fnReverseBitsWrong)

/- THE SECOND FORM. 'bulk': how many values and letters a reading holds, each counted each time it is reached (what is shared counts as often as it is met; a slice's spare places count too). A statement '..UptoSaid' is the law's where the arguments, and the package variables that the reading takes, are together of bulk at most 1048576: NARROWER than '..Said'. Prove '..Said' where nothing that the law and all that it calls make is longer than what came in: it says more and counts as full. Else prove '..UptoSaid'. A law counts once. -/
mutual
def uptoBulk {H : Type} : DataW H → Nat
  | .lit (.string bytes) => bytes.length + 1
  | .lit _ => 1
  | .nil => 1
  | .ptr d => uptoBulk d + 1
  | .slice elems spare => uptoBulkAll elems + uptoBulkAll spare + 1
  | .agg parts => uptoBulkAll parts + 1
  | .iface _ d => uptoBulk d + 1
  | .map entries => uptoBulkEntries entries + 1
  | .held _ => 1
def uptoBulkAll {H : Type} : List (DataW H) → Nat
  | [] => 0
  | d :: r => uptoBulk d + uptoBulkAll r
def uptoBulkEntries {H : Type} : List (Lit × DataW H) → Nat
  | [] => 0
  | x :: r => uptoBulkEntry x + uptoBulkEntries r
def uptoBulkEntry {H : Type} : Lit × DataW H → Nat
  | (.string bytes, d) => bytes.length + uptoBulk d + 1
  | (_, d) => uptoBulk d + 1
 end
def uptoSmall : (H : Type) → List (DataW H) → Bool := fun _ ds => decide (uptoBulkAll ds ≤ 1048576)
def OpenSpec.upto (s : _root_.Go.ChangeSpec) : _root_.Go.OpenSpec := { _root_.Go.OpenSpec.ofChange s with cond := some uptoSmall }

/-- 'laws.FnExactCrossTable', WHERE WHAT IT READS IS OF BULK AT MOST 1048576: true; the input reads as it did. -/
def fnExactCrossTableUptoRow : OpenClaim := { program := "ytohnefgjalimfaa", sum := "ef7dd52a964b9aa58e24479d66b06efcec54b526feb0c0542b5b66298e5e8ca6", func := "loop.example/spreadspectrum/laws.FnExactCrossTable", spec := "fnExactCrossTable", apart := false, narrowed := true }
def FnExactCrossTableUptoSaid : Prop := fnExactCrossTableUptoRow.holds Try.pinned (OpenSpec.upto fnExactCrossTableSpec)

/-- 'laws.FnExactPeakOf', WHERE WHAT IT READS IS OF BULK AT MOST 1048576: true; the input reads as it did. -/
def fnExactPeakOfUptoRow : OpenClaim := { program := "ytohnefgjalimfaa", sum := "ef7dd52a964b9aa58e24479d66b06efcec54b526feb0c0542b5b66298e5e8ca6", func := "loop.example/spreadspectrum/laws.FnExactPeakOf", spec := "fnExactPeakOf", apart := false, narrowed := true }
def FnExactPeakOfUptoSaid : Prop := fnExactPeakOfUptoRow.holds Try.pinned (OpenSpec.upto fnExactPeakOfSpec)

/-- 'laws.FnExactFirstRotation', WHERE WHAT IT READS IS OF BULK AT MOST 1048576: true; the input reads as it did. -/
def fnExactFirstRotationUptoRow : OpenClaim := { program := "ytohnefgjalimfaa", sum := "ef7dd52a964b9aa58e24479d66b06efcec54b526feb0c0542b5b66298e5e8ca6", func := "loop.example/spreadspectrum/laws.FnExactFirstRotation", spec := "fnExactFirstRotation", apart := false, narrowed := true }
def FnExactFirstRotationUptoSaid : Prop := fnExactFirstRotationUptoRow.holds Try.pinned (OpenSpec.upto fnExactFirstRotationSpec)

/-- 'laws.FnExactCrossValues', WHERE WHAT IT READS IS OF BULK AT MOST 1048576: true; the input reads as it did. -/
def fnExactCrossValuesUptoRow : OpenClaim := { program := "ytohnefgjalimfaa", sum := "ef7dd52a964b9aa58e24479d66b06efcec54b526feb0c0542b5b66298e5e8ca6", func := "loop.example/spreadspectrum/laws.FnExactCrossValues", spec := "fnExactCrossValues", recurses := true, apart := false, narrowed := true }
def FnExactCrossValuesUptoSaid : Prop := fnExactCrossValuesUptoRow.holds Try.pinned (OpenSpec.upto fnExactCrossValuesSpec)

/-- 'laws.FnExactRunLengths', WHERE WHAT IT READS IS OF BULK AT MOST 1048576: true; the input reads as it did. -/
def fnExactRunLengthsUptoRow : OpenClaim := { program := "ytohnefgjalimfaa", sum := "ef7dd52a964b9aa58e24479d66b06efcec54b526feb0c0542b5b66298e5e8ca6", func := "loop.example/spreadspectrum/laws.FnExactRunLengths", spec := "fnExactRunLengths", recurses := true, apart := false, narrowed := true }
def FnExactRunLengthsUptoSaid : Prop := fnExactRunLengthsUptoRow.holds Try.pinned (OpenSpec.upto fnExactRunLengthsSpec)

/-- 'laws.FnShift', WHERE WHAT IT READS IS OF BULK AT MOST 1048576: true; the input reads as it did. -/
def fnShiftUptoRow : OpenClaim := { program := "ytohnefgjalimfaa", sum := "ef7dd52a964b9aa58e24479d66b06efcec54b526feb0c0542b5b66298e5e8ca6", func := "loop.example/spreadspectrum/laws.FnShift", spec := "fnShift", apart := false, narrowed := true }
def FnShiftUptoSaid : Prop := fnShiftUptoRow.holds Try.pinned (OpenSpec.upto fnShiftSpec)

/-- 'laws.FnAddBits', WHERE WHAT IT READS IS OF BULK AT MOST 1048576: true; the input reads as it did. -/
def fnAddBitsUptoRow : OpenClaim := { program := "ytohnefgjalimfaa", sum := "ef7dd52a964b9aa58e24479d66b06efcec54b526feb0c0542b5b66298e5e8ca6", func := "loop.example/spreadspectrum/laws.FnAddBits", spec := "fnAddBits", recurses := true, apart := false, narrowed := true }
def FnAddBitsUptoSaid : Prop := fnAddBitsUptoRow.holds Try.pinned (OpenSpec.upto fnAddBitsSpec)

/-- 'laws.FnDecimate', WHERE WHAT IT READS IS OF BULK AT MOST 1048576: true; the input reads as it did. -/
def fnDecimateUptoRow : OpenClaim := { program := "ytohnefgjalimfaa", sum := "ef7dd52a964b9aa58e24479d66b06efcec54b526feb0c0542b5b66298e5e8ca6", func := "loop.example/spreadspectrum/laws.FnDecimate", spec := "fnDecimate", apart := false, narrowed := true }
def FnDecimateUptoSaid : Prop := fnDecimateUptoRow.holds Try.pinned (OpenSpec.upto fnDecimateSpec)

/-- 'laws.FnBalance', WHERE WHAT IT READS IS OF BULK AT MOST 1048576: true; the input reads as it did. -/
def fnBalanceUptoRow : OpenClaim := { program := "ytohnefgjalimfaa", sum := "ef7dd52a964b9aa58e24479d66b06efcec54b526feb0c0542b5b66298e5e8ca6", func := "loop.example/spreadspectrum/laws.FnBalance", spec := "fnBalance", recurses := true, apart := false, narrowed := true }
def FnBalanceUptoSaid : Prop := fnBalanceUptoRow.holds Try.pinned (OpenSpec.upto fnBalanceSpec)

/-- 'laws.FnCrossTurned', WHERE WHAT IT READS IS OF BULK AT MOST 1048576: true; the input reads as it did. -/
def fnCrossTurnedUptoRow : OpenClaim := { program := "ytohnefgjalimfaa", sum := "ef7dd52a964b9aa58e24479d66b06efcec54b526feb0c0542b5b66298e5e8ca6", func := "loop.example/spreadspectrum/laws.FnCrossTurned", spec := "fnCrossTurned", recurses := true, apart := false, narrowed := true }
def FnCrossTurnedUptoSaid : Prop := fnCrossTurnedUptoRow.holds Try.pinned (OpenSpec.upto fnCrossTurnedSpec)

/-- 'laws.FnAperiodic', WHERE WHAT IT READS IS OF BULK AT MOST 1048576: true; the input reads as it did. -/
def fnAperiodicUptoRow : OpenClaim := { program := "ytohnefgjalimfaa", sum := "ef7dd52a964b9aa58e24479d66b06efcec54b526feb0c0542b5b66298e5e8ca6", func := "loop.example/spreadspectrum/laws.FnAperiodic", spec := "fnAperiodic", apart := false, narrowed := true }
def FnAperiodicUptoSaid : Prop := fnAperiodicUptoRow.holds Try.pinned (OpenSpec.upto fnAperiodicSpec)

/-- 'laws.FnReverseBits', WHERE WHAT IT READS IS OF BULK AT MOST 1048576: true; the input reads as it did. -/
def fnReverseBitsUptoRow : OpenClaim := { program := "ytohnefgjalimfaa", sum := "ef7dd52a964b9aa58e24479d66b06efcec54b526feb0c0542b5b66298e5e8ca6", func := "loop.example/spreadspectrum/laws.FnReverseBits", spec := "fnReverseBits", recurses := true, apart := false, narrowed := true }
def FnReverseBitsUptoSaid : Prop := fnReverseBitsUptoRow.holds Try.pinned (OpenSpec.upto fnReverseBitsSpec)

end Rows
end Go.Proofs.Ytohnefgjalimfaa
