/-
  No cell of these rows narrows 'for every input' (looked for: loops, veiled, ifaces, maps, wideKeys, modest, calm, conditions, laid).
  DERIVED. THE GIVEN ROWS OF THIS SEAT. 12 by the template 'for every input the law returns true; each argument reads behind the call as it read before'; 0 by the template 'total and deterministic' (their statements: YtijoemoiimfffaaTotals.lean).
  GIVEN WITH THE SEED: the statements are not yours to turn. If you find one false, say at which input.
  Laid BY PROGRAM, IN A SANDBOX (cutbox-rows.mjs): the forced cells as the released guide's own fill.sh prints them over the translation b6fd47976a0c790b… (all of the seat's roots in one cut). By AI agents, Wed Nov 11 2026. No macro, syntax, notation, axiom, sorry.
-/
import Derived.Test.YtijoemoiimfffaaChecked
import GoSem.Claim
import GoSem.ClaimJoined
import GoSem.ClaimMapViews
import Derived.JoinedTies
import Derived.KernelRfl
namespace Go.Proofs.Ytijoemoiimfffaa
/- THE CELL 'sum', in the pinned program and in every row, IS THE sha256 OF THE DUMP (.gsa) THAT YtijoemoiimfffaaProg.lean LOADS. Nothing in Lean hashes anything: it is a label: what it is worth is what the hold of that sum in a sandbox is worth. -/
noncomputable def Try.pinned : Pinned := { name := "ytijoemoiimfffaa", sum := "b6fd47976a0c790bedeffdbda73ded9a4788217252eb7a7cee80e71195d2512d", checked := Try.checked }
namespace Rows
def none {H : Type} : Left H := { results := [], args := [] }

/-- 'laws.FnExactGoldBound': WHATEVER THE INPUT: true; the input reads as it did. -/
def fnExactGoldBoundSpec : ChangeSpec := { name := "fnExactGoldBound", fn := fun _ => fun
  | [d] => { results := [.lit (.bool true)], args := [d] }
  | _ => none }
def fnExactGoldBoundRow : OpenClaim := { program := "ytijoemoiimfffaa", sum := "b6fd47976a0c790bedeffdbda73ded9a4788217252eb7a7cee80e71195d2512d", func := "loop.example/spreadspectrum/laws.FnExactGoldBound", spec := "fnExactGoldBound", apart := false }
def FnExactGoldBoundSaid : Prop := fnExactGoldBoundRow.holds Try.pinned (OpenSpec.ofChange fnExactGoldBoundSpec)

/-- ITS FALSE NEIGHBOUR: 'it returns false'. Refute it at one input. -/
def fnExactGoldBoundWrong : ChangeSpec := { name := "fnExactGoldBound", fn := fun _ => fun
  | [d] => { results := [.lit (.bool false)], args := [d] }
  | _ => none }
def FnExactGoldBoundWrongFalsely : Prop := fnExactGoldBoundRow.holds Try.pinned (OpenSpec.ofChange fnExactGoldBoundWrong)

/-- 'laws.FnExactWalshCode': WHATEVER THE INPUT: true; the input reads as it did. -/
def fnExactWalshCodeSpec : ChangeSpec := { name := "fnExactWalshCode", fn := fun _ => fun
  | [d1, d2] => { results := [.lit (.bool true)], args := [d1, d2] }
  | _ => none }
def fnExactWalshCodeRow : OpenClaim := { program := "ytijoemoiimfffaa", sum := "b6fd47976a0c790bedeffdbda73ded9a4788217252eb7a7cee80e71195d2512d", func := "loop.example/spreadspectrum/laws.FnExactWalshCode", spec := "fnExactWalshCode", apart := false }
def FnExactWalshCodeSaid : Prop := fnExactWalshCodeRow.holds Try.pinned (OpenSpec.ofChange fnExactWalshCodeSpec)

/-- ITS FALSE NEIGHBOUR: 'it returns false'. Refute it at one input. -/
def fnExactWalshCodeWrong : ChangeSpec := { name := "fnExactWalshCode", fn := fun _ => fun
  | [d1, d2] => { results := [.lit (.bool false)], args := [d1, d2] }
  | _ => none }
def FnExactWalshCodeWrongFalsely : Prop := fnExactWalshCodeRow.holds Try.pinned (OpenSpec.ofChange fnExactWalshCodeWrong)

/-- 'laws.FnExactWalshIndex': WHATEVER THE INPUT: true; the input reads as it did. -/
def fnExactWalshIndexSpec : ChangeSpec := { name := "fnExactWalshIndex", fn := fun _ => fun
  | [d] => { results := [.lit (.bool true)], args := [d] }
  | _ => none }
def fnExactWalshIndexRow : OpenClaim := { program := "ytijoemoiimfffaa", sum := "b6fd47976a0c790bedeffdbda73ded9a4788217252eb7a7cee80e71195d2512d", func := "loop.example/spreadspectrum/laws.FnExactWalshIndex", spec := "fnExactWalshIndex", apart := false }
def FnExactWalshIndexSaid : Prop := fnExactWalshIndexRow.holds Try.pinned (OpenSpec.ofChange fnExactWalshIndexSpec)

/-- ITS FALSE NEIGHBOUR: 'it returns false'. Refute it at one input. -/
def fnExactWalshIndexWrong : ChangeSpec := { name := "fnExactWalshIndex", fn := fun _ => fun
  | [d] => { results := [.lit (.bool false)], args := [d] }
  | _ => none }
def FnExactWalshIndexWrongFalsely : Prop := fnExactWalshIndexRow.holds Try.pinned (OpenSpec.ofChange fnExactWalshIndexWrong)

/-- 'laws.FnExactWalshTransform': WHATEVER THE INPUT: true; the input reads as it did. -/
def fnExactWalshTransformSpec : ChangeSpec := { name := "fnExactWalshTransform", fn := fun _ => fun
  | [d] => { results := [.lit (.bool true)], args := [d] }
  | _ => none }
def fnExactWalshTransformRow : OpenClaim := { program := "ytijoemoiimfffaa", sum := "b6fd47976a0c790bedeffdbda73ded9a4788217252eb7a7cee80e71195d2512d", func := "loop.example/spreadspectrum/laws.FnExactWalshTransform", spec := "fnExactWalshTransform", apart := false }
def FnExactWalshTransformSaid : Prop := fnExactWalshTransformRow.holds Try.pinned (OpenSpec.ofChange fnExactWalshTransformSpec)

/-- ITS FALSE NEIGHBOUR: 'it returns false'. Refute it at one input. -/
def fnExactWalshTransformWrong : ChangeSpec := { name := "fnExactWalshTransform", fn := fun _ => fun
  | [d] => { results := [.lit (.bool false)], args := [d] }
  | _ => none }
def FnExactWalshTransformWrongFalsely : Prop := fnExactWalshTransformRow.holds Try.pinned (OpenSpec.ofChange fnExactWalshTransformWrong)

/-- 'laws.FnExactTreeCode': WHATEVER THE INPUT: true; the input reads as it did. -/
def fnExactTreeCodeSpec : ChangeSpec := { name := "fnExactTreeCode", fn := fun _ => fun
  | [d] => { results := [.lit (.bool true)], args := [d] }
  | _ => none }
def fnExactTreeCodeRow : OpenClaim := { program := "ytijoemoiimfffaa", sum := "b6fd47976a0c790bedeffdbda73ded9a4788217252eb7a7cee80e71195d2512d", func := "loop.example/spreadspectrum/laws.FnExactTreeCode", spec := "fnExactTreeCode", apart := false }
def FnExactTreeCodeSaid : Prop := fnExactTreeCodeRow.holds Try.pinned (OpenSpec.ofChange fnExactTreeCodeSpec)

/-- ITS FALSE NEIGHBOUR: 'it returns false'. Refute it at one input. -/
def fnExactTreeCodeWrong : ChangeSpec := { name := "fnExactTreeCode", fn := fun _ => fun
  | [d] => { results := [.lit (.bool false)], args := [d] }
  | _ => none }
def FnExactTreeCodeWrongFalsely : Prop := fnExactTreeCodeRow.holds Try.pinned (OpenSpec.ofChange fnExactTreeCodeWrong)

/-- 'laws.FnExactTreeConflict': WHATEVER THE INPUT: true; the input reads as it did. -/
def fnExactTreeConflictSpec : ChangeSpec := { name := "fnExactTreeConflict", fn := fun _ => fun
  | [d1, d2] => { results := [.lit (.bool true)], args := [d1, d2] }
  | _ => none }
def fnExactTreeConflictRow : OpenClaim := { program := "ytijoemoiimfffaa", sum := "b6fd47976a0c790bedeffdbda73ded9a4788217252eb7a7cee80e71195d2512d", func := "loop.example/spreadspectrum/laws.FnExactTreeConflict", spec := "fnExactTreeConflict", apart := false }
def FnExactTreeConflictSaid : Prop := fnExactTreeConflictRow.holds Try.pinned (OpenSpec.ofChange fnExactTreeConflictSpec)

/-- ITS FALSE NEIGHBOUR: 'it returns false'. Refute it at one input. -/
def fnExactTreeConflictWrong : ChangeSpec := { name := "fnExactTreeConflict", fn := fun _ => fun
  | [d1, d2] => { results := [.lit (.bool false)], args := [d1, d2] }
  | _ => none }
def FnExactTreeConflictWrongFalsely : Prop := fnExactTreeConflictRow.holds Try.pinned (OpenSpec.ofChange fnExactTreeConflictWrong)

/-- 'laws.FnExactAllocateTree': WHATEVER THE INPUT: true; the input reads as it did. -/
def fnExactAllocateTreeSpec : ChangeSpec := { name := "fnExactAllocateTree", fn := fun _ => fun
  | [d1, d2] => { results := [.lit (.bool true)], args := [d1, d2] }
  | _ => none }
def fnExactAllocateTreeRow : OpenClaim := { program := "ytijoemoiimfffaa", sum := "b6fd47976a0c790bedeffdbda73ded9a4788217252eb7a7cee80e71195d2512d", func := "loop.example/spreadspectrum/laws.FnExactAllocateTree", spec := "fnExactAllocateTree", recurses := true, apart := false }
def FnExactAllocateTreeSaid : Prop := fnExactAllocateTreeRow.holds Try.pinned (OpenSpec.ofChange fnExactAllocateTreeSpec)

/-- ITS FALSE NEIGHBOUR: 'it returns false'. Refute it at one input. -/
def fnExactAllocateTreeWrong : ChangeSpec := { name := "fnExactAllocateTree", fn := fun _ => fun
  | [d1, d2] => { results := [.lit (.bool false)], args := [d1, d2] }
  | _ => none }
def FnExactAllocateTreeWrongFalsely : Prop := fnExactAllocateTreeRow.holds Try.pinned (OpenSpec.ofChange fnExactAllocateTreeWrong)

/-- 'laws.FnExactFreePaths': WHATEVER THE INPUT: true; the input reads as it did. -/
def fnExactFreePathsSpec : ChangeSpec := { name := "fnExactFreePaths", fn := fun _ => fun
  | [d1, d2] => { results := [.lit (.bool true)], args := [d1, d2] }
  | _ => none }
def fnExactFreePathsRow : OpenClaim := { program := "ytijoemoiimfffaa", sum := "b6fd47976a0c790bedeffdbda73ded9a4788217252eb7a7cee80e71195d2512d", func := "loop.example/spreadspectrum/laws.FnExactFreePaths", spec := "fnExactFreePaths", recurses := true, apart := false }
def FnExactFreePathsSaid : Prop := fnExactFreePathsRow.holds Try.pinned (OpenSpec.ofChange fnExactFreePathsSpec)

/-- ITS FALSE NEIGHBOUR: 'it returns false'. Refute it at one input. -/
def fnExactFreePathsWrong : ChangeSpec := { name := "fnExactFreePaths", fn := fun _ => fun
  | [d1, d2] => { results := [.lit (.bool false)], args := [d1, d2] }
  | _ => none }
def FnExactFreePathsWrongFalsely : Prop := fnExactFreePathsRow.holds Try.pinned (OpenSpec.ofChange fnExactFreePathsWrong)

/-- 'laws.FnExactBarkerValid': WHATEVER THE INPUT: true; the input reads as it did. -/
def fnExactBarkerValidSpec : ChangeSpec := { name := "fnExactBarkerValid", fn := fun _ => fun
  | [d] => { results := [.lit (.bool true)], args := [d] }
  | _ => none }
def fnExactBarkerValidRow : OpenClaim := { program := "ytijoemoiimfffaa", sum := "b6fd47976a0c790bedeffdbda73ded9a4788217252eb7a7cee80e71195d2512d", func := "loop.example/spreadspectrum/laws.FnExactBarkerValid", spec := "fnExactBarkerValid", apart := false }
def FnExactBarkerValidSaid : Prop := fnExactBarkerValidRow.holds Try.pinned (OpenSpec.ofChange fnExactBarkerValidSpec)

/-- ITS FALSE NEIGHBOUR: 'it returns false'. Refute it at one input. -/
def fnExactBarkerValidWrong : ChangeSpec := { name := "fnExactBarkerValid", fn := fun _ => fun
  | [d] => { results := [.lit (.bool false)], args := [d] }
  | _ => none }
def FnExactBarkerValidWrongFalsely : Prop := fnExactBarkerValidRow.holds Try.pinned (OpenSpec.ofChange fnExactBarkerValidWrong)

/-- 'laws.FnExactFirstBarker': WHATEVER THE INPUT: true; the input reads as it did. -/
def fnExactFirstBarkerSpec : ChangeSpec := { name := "fnExactFirstBarker", fn := fun _ => fun
  | [d] => { results := [.lit (.bool true)], args := [d] }
  | _ => none }
def fnExactFirstBarkerRow : OpenClaim := { program := "ytijoemoiimfffaa", sum := "b6fd47976a0c790bedeffdbda73ded9a4788217252eb7a7cee80e71195d2512d", func := "loop.example/spreadspectrum/laws.FnExactFirstBarker", spec := "fnExactFirstBarker", recurses := true, apart := false }
def FnExactFirstBarkerSaid : Prop := fnExactFirstBarkerRow.holds Try.pinned (OpenSpec.ofChange fnExactFirstBarkerSpec)

/-- ITS FALSE NEIGHBOUR: 'it returns false'. Refute it at one input. -/
def fnExactFirstBarkerWrong : ChangeSpec := { name := "fnExactFirstBarker", fn := fun _ => fun
  | [d] => { results := [.lit (.bool false)], args := [d] }
  | _ => none }
def FnExactFirstBarkerWrongFalsely : Prop := fnExactFirstBarkerRow.holds Try.pinned (OpenSpec.ofChange fnExactFirstBarkerWrong)

/-- 'laws.FnExactWorstCross': WHATEVER THE INPUT: true; the input reads as it did. -/
def fnExactWorstCrossSpec : ChangeSpec := { name := "fnExactWorstCross", fn := fun _ => fun
  | [d] => { results := [.lit (.bool true)], args := [d] }
  | _ => none }
def fnExactWorstCrossRow : OpenClaim := { program := "ytijoemoiimfffaa", sum := "b6fd47976a0c790bedeffdbda73ded9a4788217252eb7a7cee80e71195d2512d", func := "loop.example/spreadspectrum/laws.FnExactWorstCross", spec := "fnExactWorstCross", apart := false }
def FnExactWorstCrossSaid : Prop := fnExactWorstCrossRow.holds Try.pinned (OpenSpec.ofChange fnExactWorstCrossSpec)

/-- ITS FALSE NEIGHBOUR: 'it returns false'. Refute it at one input. -/
def fnExactWorstCrossWrong : ChangeSpec := { name := "fnExactWorstCross", fn := fun _ => fun
  | [d] => { results := [.lit (.bool false)], args := [d] }
  | _ => none }
def FnExactWorstCrossWrongFalsely : Prop := fnExactWorstCrossRow.holds Try.pinned (OpenSpec.ofChange fnExactWorstCrossWrong)

/-- 'laws.FnExactRunLengths': WHATEVER THE INPUT: true; the input reads as it did. -/
def fnExactRunLengthsSpec : ChangeSpec := { name := "fnExactRunLengths", fn := fun _ => fun
  | [d] => { results := [.lit (.bool true)], args := [d] }
  | _ => none }
def fnExactRunLengthsRow : OpenClaim := { program := "ytijoemoiimfffaa", sum := "b6fd47976a0c790bedeffdbda73ded9a4788217252eb7a7cee80e71195d2512d", func := "loop.example/spreadspectrum/laws.FnExactRunLengths", spec := "fnExactRunLengths", recurses := true, apart := false }
def FnExactRunLengthsSaid : Prop := fnExactRunLengthsRow.holds Try.pinned (OpenSpec.ofChange fnExactRunLengthsSpec)

/-- ITS FALSE NEIGHBOUR: 'it returns false'. Refute it at one input. -/
def fnExactRunLengthsWrong : ChangeSpec := { name := "fnExactRunLengths", fn := fun _ => fun
  | [d] => { results := [.lit (.bool false)], args := [d] }
  | _ => none }
def FnExactRunLengthsWrongFalsely : Prop := fnExactRunLengthsRow.holds Try.pinned (OpenSpec.ofChange fnExactRunLengthsWrong)

/- THE SECOND FORM. 'bulk': how many values and letters a reading holds, each counted each time it is reached (what is shared counts as often as it is met; a slice's spare places count too). A statement '..UptoSaid' is the law's where the arguments, and the package variables that the reading takes, are together of bulk at most 1048576: NARROWER than '..Said'. Prove '..Said' where nothing that the law and all that it calls make is longer than what came in: it says more and counts as full. Else prove '..UptoSaid'. A law counts once. -/
mutual
def uptoBulk {H : Type} : DataW H → Nat
  | .lit (.string bytes) => bytes.length + 1
  | .lit _ => 1
  | .nil => 1
  | .ptr d => uptoBulk d + 1
  | .slice elems spare => uptoBulkAll elems + uptoBulkAll spare + 1
  | .agg parts => uptoBulkAll parts + 1
  | .iface _ d => uptoBulk d + 1
  | .map entries => uptoBulkEntries entries + 1
  | .held _ => 1
def uptoBulkAll {H : Type} : List (DataW H) → Nat
  | [] => 0
  | d :: r => uptoBulk d + uptoBulkAll r
def uptoBulkEntries {H : Type} : List (Lit × DataW H) → Nat
  | [] => 0
  | x :: r => uptoBulkEntry x + uptoBulkEntries r
def uptoBulkEntry {H : Type} : Lit × DataW H → Nat
  | (.string bytes, d) => bytes.length + uptoBulk d + 1
  | (_, d) => uptoBulk d + 1
 end
def uptoSmall : (H : Type) → List (DataW H) → Bool := fun _ ds => decide (uptoBulkAll ds ≤ 1048576)
def OpenSpec.upto (s : _root_.Go.ChangeSpec) : _root_.Go.OpenSpec := { _root_.Go.OpenSpec.ofChange s with cond := some uptoSmall }

/-- 'laws.FnExactGoldBound', WHERE WHAT IT READS IS OF BULK AT MOST 1048576: true; the input reads as it did. -/
def fnExactGoldBoundUptoRow : OpenClaim := { program := "ytijoemoiimfffaa", sum := "b6fd47976a0c790bedeffdbda73ded9a4788217252eb7a7cee80e71195d2512d", func := "loop.example/spreadspectrum/laws.FnExactGoldBound", spec := "fnExactGoldBound", apart := false, narrowed := true }
def FnExactGoldBoundUptoSaid : Prop := fnExactGoldBoundUptoRow.holds Try.pinned (OpenSpec.upto fnExactGoldBoundSpec)

/-- 'laws.FnExactWalshCode', WHERE WHAT IT READS IS OF BULK AT MOST 1048576: true; the input reads as it did. -/
def fnExactWalshCodeUptoRow : OpenClaim := { program := "ytijoemoiimfffaa", sum := "b6fd47976a0c790bedeffdbda73ded9a4788217252eb7a7cee80e71195d2512d", func := "loop.example/spreadspectrum/laws.FnExactWalshCode", spec := "fnExactWalshCode", apart := false, narrowed := true }
def FnExactWalshCodeUptoSaid : Prop := fnExactWalshCodeUptoRow.holds Try.pinned (OpenSpec.upto fnExactWalshCodeSpec)

/-- 'laws.FnExactWalshIndex', WHERE WHAT IT READS IS OF BULK AT MOST 1048576: true; the input reads as it did. -/
def fnExactWalshIndexUptoRow : OpenClaim := { program := "ytijoemoiimfffaa", sum := "b6fd47976a0c790bedeffdbda73ded9a4788217252eb7a7cee80e71195d2512d", func := "loop.example/spreadspectrum/laws.FnExactWalshIndex", spec := "fnExactWalshIndex", apart := false, narrowed := true }
def FnExactWalshIndexUptoSaid : Prop := fnExactWalshIndexUptoRow.holds Try.pinned (OpenSpec.upto fnExactWalshIndexSpec)

/-- 'laws.FnExactWalshTransform', WHERE WHAT IT READS IS OF BULK AT MOST 1048576: true; the input reads as it did. -/
def fnExactWalshTransformUptoRow : OpenClaim := { program := "ytijoemoiimfffaa", sum := "b6fd47976a0c790bedeffdbda73ded9a4788217252eb7a7cee80e71195d2512d", func := "loop.example/spreadspectrum/laws.FnExactWalshTransform", spec := "fnExactWalshTransform", apart := false, narrowed := true }
def FnExactWalshTransformUptoSaid : Prop := fnExactWalshTransformUptoRow.holds Try.pinned (OpenSpec.upto fnExactWalshTransformSpec)

/-- 'laws.FnExactTreeCode', WHERE WHAT IT READS IS OF BULK AT MOST 1048576: true; the input reads as it did. -/
def fnExactTreeCodeUptoRow : OpenClaim := { program := "ytijoemoiimfffaa", sum := "b6fd47976a0c790bedeffdbda73ded9a4788217252eb7a7cee80e71195d2512d", func := "loop.example/spreadspectrum/laws.FnExactTreeCode", spec := "fnExactTreeCode", apart := false, narrowed := true }
def FnExactTreeCodeUptoSaid : Prop := fnExactTreeCodeUptoRow.holds Try.pinned (OpenSpec.upto fnExactTreeCodeSpec)

/-- 'laws.FnExactTreeConflict', WHERE WHAT IT READS IS OF BULK AT MOST 1048576: true; the input reads as it did. -/
def fnExactTreeConflictUptoRow : OpenClaim := { program := "ytijoemoiimfffaa", sum := "b6fd47976a0c790bedeffdbda73ded9a4788217252eb7a7cee80e71195d2512d", func := "loop.example/spreadspectrum/laws.FnExactTreeConflict", spec := "fnExactTreeConflict", apart := false, narrowed := true }
def FnExactTreeConflictUptoSaid : Prop := fnExactTreeConflictUptoRow.holds Try.pinned (OpenSpec.upto fnExactTreeConflictSpec)

/-- 'laws.FnExactAllocateTree', WHERE WHAT IT READS IS OF BULK AT MOST 1048576: true; the input reads as it did. -/
def fnExactAllocateTreeUptoRow : OpenClaim := { program := "ytijoemoiimfffaa", sum := "b6fd47976a0c790bedeffdbda73ded9a4788217252eb7a7cee80e71195d2512d", func := "loop.example/spreadspectrum/laws.FnExactAllocateTree", spec := "fnExactAllocateTree", recurses := true, apart := false, narrowed := true }
def FnExactAllocateTreeUptoSaid : Prop := fnExactAllocateTreeUptoRow.holds Try.pinned (OpenSpec.upto fnExactAllocateTreeSpec)

/-- 'laws.FnExactFreePaths', WHERE WHAT IT READS IS OF BULK AT MOST 1048576: true; the input reads as it did. -/
def fnExactFreePathsUptoRow : OpenClaim := { program := "ytijoemoiimfffaa", sum := "b6fd47976a0c790bedeffdbda73ded9a4788217252eb7a7cee80e71195d2512d", func := "loop.example/spreadspectrum/laws.FnExactFreePaths", spec := "fnExactFreePaths", recurses := true, apart := false, narrowed := true }
def FnExactFreePathsUptoSaid : Prop := fnExactFreePathsUptoRow.holds Try.pinned (OpenSpec.upto fnExactFreePathsSpec)

/-- 'laws.FnExactBarkerValid', WHERE WHAT IT READS IS OF BULK AT MOST 1048576: true; the input reads as it did. -/
def fnExactBarkerValidUptoRow : OpenClaim := { program := "ytijoemoiimfffaa", sum := "b6fd47976a0c790bedeffdbda73ded9a4788217252eb7a7cee80e71195d2512d", func := "loop.example/spreadspectrum/laws.FnExactBarkerValid", spec := "fnExactBarkerValid", apart := false, narrowed := true }
def FnExactBarkerValidUptoSaid : Prop := fnExactBarkerValidUptoRow.holds Try.pinned (OpenSpec.upto fnExactBarkerValidSpec)

/-- 'laws.FnExactFirstBarker', WHERE WHAT IT READS IS OF BULK AT MOST 1048576: true; the input reads as it did. -/
def fnExactFirstBarkerUptoRow : OpenClaim := { program := "ytijoemoiimfffaa", sum := "b6fd47976a0c790bedeffdbda73ded9a4788217252eb7a7cee80e71195d2512d", func := "loop.example/spreadspectrum/laws.FnExactFirstBarker", spec := "fnExactFirstBarker", recurses := true, apart := false, narrowed := true }
def FnExactFirstBarkerUptoSaid : Prop := fnExactFirstBarkerUptoRow.holds Try.pinned (OpenSpec.upto fnExactFirstBarkerSpec)

/-- 'laws.FnExactWorstCross', WHERE WHAT IT READS IS OF BULK AT MOST 1048576: true; the input reads as it did. -/
def fnExactWorstCrossUptoRow : OpenClaim := { program := "ytijoemoiimfffaa", sum := "b6fd47976a0c790bedeffdbda73ded9a4788217252eb7a7cee80e71195d2512d", func := "loop.example/spreadspectrum/laws.FnExactWorstCross", spec := "fnExactWorstCross", apart := false, narrowed := true }
def FnExactWorstCrossUptoSaid : Prop := fnExactWorstCrossUptoRow.holds Try.pinned (OpenSpec.upto fnExactWorstCrossSpec)

/-- 'laws.FnExactRunLengths', WHERE WHAT IT READS IS OF BULK AT MOST 1048576: true; the input reads as it did. -/
def fnExactRunLengthsUptoRow : OpenClaim := { program := "ytijoemoiimfffaa", sum := "b6fd47976a0c790bedeffdbda73ded9a4788217252eb7a7cee80e71195d2512d", func := "loop.example/spreadspectrum/laws.FnExactRunLengths", spec := "fnExactRunLengths", recurses := true, apart := false, narrowed := true }
def FnExactRunLengthsUptoSaid : Prop := fnExactRunLengthsUptoRow.holds Try.pinned (OpenSpec.upto fnExactRunLengthsSpec)

end Rows
end Go.Proofs.Ytijoemoiimfffaa
