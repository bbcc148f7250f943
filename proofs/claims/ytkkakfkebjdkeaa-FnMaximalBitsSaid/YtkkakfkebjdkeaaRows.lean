/-
  No cell of these rows narrows 'for every input' (looked for: loops, veiled, ifaces, maps, wideKeys, modest, calm, conditions, laid).
  DERIVED. THE GIVEN ROWS OF THIS SEAT. 10 by the template 'for every input the law returns true; each argument reads behind the call as it read before'; 0 by the template 'total and deterministic' (their statements: YtkkakfkebjdkeaaTotals.lean).
  GIVEN WITH THE SEED: the statements are not yours to turn. If you find one false, say at which input.
  Laid BY PROGRAM, IN A SANDBOX (cutbox-rows.mjs): the forced cells as the released guide's own fill.sh prints them over the translation 56b900a3702926c5… (all of the seat's roots in one cut). By AI agents, Wed Nov 11 2026. No macro, syntax, notation, axiom, sorry.
-/
import Derived.Test.YtkkakfkebjdkeaaChecked
import GoSem.Claim
import GoSem.ClaimJoined
import GoSem.ClaimMapViews
import Derived.JoinedTies
import Derived.KernelRfl
namespace Go.Proofs.Ytkkakfkebjdkeaa
/- THE CELL 'sum', in the pinned program and in every row, IS THE sha256 OF THE DUMP (.gsa) THAT YtkkakfkebjdkeaaProg.lean LOADS. Nothing in Lean hashes anything: it is a label: what it is worth is what the hold of that sum in a sandbox is worth. -/
noncomputable def Try.pinned : Pinned := { name := "ytkkakfkebjdkeaa", sum := "56b900a3702926c5d8810496d5753df1b5aa5f21758a196e0f17bf0e6f3262da", checked := Try.checked }
namespace Rows
def none {H : Type} : Left H := { results := [], args := [] }

/-- 'laws.FnTransform': WHATEVER THE INPUT: true; the input reads as it did. -/
def fnTransformSpec : ChangeSpec := { name := "fnTransform", fn := fun _ => fun
  | [d] => { results := [.lit (.bool true)], args := [d] }
  | _ => none }
def fnTransformRow : OpenClaim := { program := "ytkkakfkebjdkeaa", sum := "56b900a3702926c5d8810496d5753df1b5aa5f21758a196e0f17bf0e6f3262da", func := "loop.example/spreadspectrum/laws.FnTransform", spec := "fnTransform", apart := false }
def FnTransformSaid : Prop := fnTransformRow.holds Try.pinned (OpenSpec.ofChange fnTransformSpec)

/-- ITS FALSE NEIGHBOUR: 'it returns false'. Refute it at one input. -/
def fnTransformWrong : ChangeSpec := { name := "fnTransform", fn := fun _ => fun
  | [d] => { results := [.lit (.bool false)], args := [d] }
  | _ => none }
def FnTransformWrongFalsely : Prop := fnTransformRow.holds Try.pinned (OpenSpec.ofChange fnTransformWrong)

/-- 'laws.FnWorst': WHATEVER THE INPUT: true; the input reads as it did. -/
def fnWorstSpec : ChangeSpec := { name := "fnWorst", fn := fun _ => fun
  | [d1, d2] => { results := [.lit (.bool true)], args := [d1, d2] }
  | _ => none }
def fnWorstRow : OpenClaim := { program := "ytkkakfkebjdkeaa", sum := "56b900a3702926c5d8810496d5753df1b5aa5f21758a196e0f17bf0e6f3262da", func := "loop.example/spreadspectrum/laws.FnWorst", spec := "fnWorst", recurses := true, apart := false }
def FnWorstSaid : Prop := fnWorstRow.holds Try.pinned (OpenSpec.ofChange fnWorstSpec)

/-- ITS FALSE NEIGHBOUR: 'it returns false'. Refute it at one input. -/
def fnWorstWrong : ChangeSpec := { name := "fnWorst", fn := fun _ => fun
  | [d1, d2] => { results := [.lit (.bool false)], args := [d1, d2] }
  | _ => none }
def FnWorstWrongFalsely : Prop := fnWorstRow.holds Try.pinned (OpenSpec.ofChange fnWorstWrong)

/-- 'laws.FnGoldCode': WHATEVER THE INPUT: true; the input reads as it did. -/
def fnGoldCodeSpec : ChangeSpec := { name := "fnGoldCode", fn := fun _ => fun
  | [d] => { results := [.lit (.bool true)], args := [d] }
  | _ => none }
def fnGoldCodeRow : OpenClaim := { program := "ytkkakfkebjdkeaa", sum := "56b900a3702926c5d8810496d5753df1b5aa5f21758a196e0f17bf0e6f3262da", func := "loop.example/spreadspectrum/laws.FnGoldCode", spec := "fnGoldCode", inPlace := ["internal/abi.NoEscape"], unfollowed := true, recurses := true, apart := false }
def FnGoldCodeSaid : Prop := fnGoldCodeRow.holds Try.pinned (OpenSpec.ofChange fnGoldCodeSpec)

/-- ITS FALSE NEIGHBOUR: 'it returns false'. Refute it at one input. -/
def fnGoldCodeWrong : ChangeSpec := { name := "fnGoldCode", fn := fun _ => fun
  | [d] => { results := [.lit (.bool false)], args := [d] }
  | _ => none }
def FnGoldCodeWrongFalsely : Prop := fnGoldCodeRow.holds Try.pinned (OpenSpec.ofChange fnGoldCodeWrong)

/-- 'laws.FnPreferredPairs': WHATEVER THE INPUT: true; the input reads as it did. -/
def fnPreferredPairsSpec : ChangeSpec := { name := "fnPreferredPairs", fn := fun _ => fun
  | [d] => { results := [.lit (.bool true)], args := [d] }
  | _ => none }
def fnPreferredPairsRow : OpenClaim := { program := "ytkkakfkebjdkeaa", sum := "56b900a3702926c5d8810496d5753df1b5aa5f21758a196e0f17bf0e6f3262da", func := "loop.example/spreadspectrum/laws.FnPreferredPairs", spec := "fnPreferredPairs", inPlace := ["internal/abi.NoEscape"], unfollowed := true, recurses := true, apart := false }
def FnPreferredPairsSaid : Prop := fnPreferredPairsRow.holds Try.pinned (OpenSpec.ofChange fnPreferredPairsSpec)

/-- ITS FALSE NEIGHBOUR: 'it returns false'. Refute it at one input. -/
def fnPreferredPairsWrong : ChangeSpec := { name := "fnPreferredPairs", fn := fun _ => fun
  | [d] => { results := [.lit (.bool false)], args := [d] }
  | _ => none }
def FnPreferredPairsWrongFalsely : Prop := fnPreferredPairsRow.holds Try.pinned (OpenSpec.ofChange fnPreferredPairsWrong)

/-- 'laws.FnExactPreferredPairs': WHATEVER THE INPUT: true; the input reads as it did. -/
def fnExactPreferredPairsSpec : ChangeSpec := { name := "fnExactPreferredPairs", fn := fun _ => fun
  | [d] => { results := [.lit (.bool true)], args := [d] }
  | _ => none }
def fnExactPreferredPairsRow : OpenClaim := { program := "ytkkakfkebjdkeaa", sum := "56b900a3702926c5d8810496d5753df1b5aa5f21758a196e0f17bf0e6f3262da", func := "loop.example/spreadspectrum/laws.FnExactPreferredPairs", spec := "fnExactPreferredPairs", inPlace := ["internal/abi.NoEscape"], unfollowed := true, recurses := true, apart := false }
def FnExactPreferredPairsSaid : Prop := fnExactPreferredPairsRow.holds Try.pinned (OpenSpec.ofChange fnExactPreferredPairsSpec)

/-- ITS FALSE NEIGHBOUR: 'it returns false'. Refute it at one input. -/
def fnExactPreferredPairsWrong : ChangeSpec := { name := "fnExactPreferredPairs", fn := fun _ => fun
  | [d] => { results := [.lit (.bool false)], args := [d] }
  | _ => none }
def FnExactPreferredPairsWrongFalsely : Prop := fnExactPreferredPairsRow.holds Try.pinned (OpenSpec.ofChange fnExactPreferredPairsWrong)

/-- 'laws.FnReverse': WHATEVER THE INPUT: true; the input reads as it did. -/
def fnReverseSpec : ChangeSpec := { name := "fnReverse", fn := fun _ => fun
  | [d1, d2] => { results := [.lit (.bool true)], args := [d1, d2] }
  | _ => none }
def fnReverseRow : OpenClaim := { program := "ytkkakfkebjdkeaa", sum := "56b900a3702926c5d8810496d5753df1b5aa5f21758a196e0f17bf0e6f3262da", func := "loop.example/spreadspectrum/laws.FnReverse", spec := "fnReverse", inPlace := ["internal/abi.NoEscape"], unfollowed := true, recurses := true, apart := false }
def FnReverseSaid : Prop := fnReverseRow.holds Try.pinned (OpenSpec.ofChange fnReverseSpec)

/-- ITS FALSE NEIGHBOUR: 'it returns false'. Refute it at one input. -/
def fnReverseWrong : ChangeSpec := { name := "fnReverse", fn := fun _ => fun
  | [d1, d2] => { results := [.lit (.bool false)], args := [d1, d2] }
  | _ => none }
def FnReverseWrongFalsely : Prop := fnReverseRow.holds Try.pinned (OpenSpec.ofChange fnReverseWrong)

/-- 'laws.FnMaximalBits': WHATEVER THE INPUT: true; the input reads as it did. -/
def fnMaximalBitsSpec : ChangeSpec := { name := "fnMaximalBits", fn := fun _ => fun
  | [d1, d2] => { results := [.lit (.bool true)], args := [d1, d2] }
  | _ => none }
def fnMaximalBitsRow : OpenClaim := { program := "ytkkakfkebjdkeaa", sum := "56b900a3702926c5d8810496d5753df1b5aa5f21758a196e0f17bf0e6f3262da", func := "loop.example/spreadspectrum/laws.FnMaximalBits", spec := "fnMaximalBits", inPlace := ["internal/abi.NoEscape"], unfollowed := true, recurses := true, apart := false }
def FnMaximalBitsSaid : Prop := fnMaximalBitsRow.holds Try.pinned (OpenSpec.ofChange fnMaximalBitsSpec)

/-- ITS FALSE NEIGHBOUR: 'it returns false'. Refute it at one input. -/
def fnMaximalBitsWrong : ChangeSpec := { name := "fnMaximalBits", fn := fun _ => fun
  | [d1, d2] => { results := [.lit (.bool false)], args := [d1, d2] }
  | _ => none }
def FnMaximalBitsWrongFalsely : Prop := fnMaximalBitsRow.holds Try.pinned (OpenSpec.ofChange fnMaximalBitsWrong)

/-- 'laws.FnMaximalFamily': WHATEVER THE INPUT: true; the input reads as it did. -/
def fnMaximalFamilySpec : ChangeSpec := { name := "fnMaximalFamily", fn := fun _ => fun
  | [d1, d2] => { results := [.lit (.bool true)], args := [d1, d2] }
  | _ => none }
def fnMaximalFamilyRow : OpenClaim := { program := "ytkkakfkebjdkeaa", sum := "56b900a3702926c5d8810496d5753df1b5aa5f21758a196e0f17bf0e6f3262da", func := "loop.example/spreadspectrum/laws.FnMaximalFamily", spec := "fnMaximalFamily", inPlace := ["internal/abi.NoEscape"], unfollowed := true, recurses := true, apart := false }
def FnMaximalFamilySaid : Prop := fnMaximalFamilyRow.holds Try.pinned (OpenSpec.ofChange fnMaximalFamilySpec)

/-- ITS FALSE NEIGHBOUR: 'it returns false'. Refute it at one input. -/
def fnMaximalFamilyWrong : ChangeSpec := { name := "fnMaximalFamily", fn := fun _ => fun
  | [d1, d2] => { results := [.lit (.bool false)], args := [d1, d2] }
  | _ => none }
def FnMaximalFamilyWrongFalsely : Prop := fnMaximalFamilyRow.holds Try.pinned (OpenSpec.ofChange fnMaximalFamilyWrong)

/-- 'laws.FnMaximalSequence': WHATEVER THE INPUT: true; the input reads as it did. -/
def fnMaximalSequenceSpec : ChangeSpec := { name := "fnMaximalSequence", fn := fun _ => fun
  | [d1, d2] => { results := [.lit (.bool true)], args := [d1, d2] }
  | _ => none }
def fnMaximalSequenceRow : OpenClaim := { program := "ytkkakfkebjdkeaa", sum := "56b900a3702926c5d8810496d5753df1b5aa5f21758a196e0f17bf0e6f3262da", func := "loop.example/spreadspectrum/laws.FnMaximalSequence", spec := "fnMaximalSequence", inPlace := ["internal/abi.NoEscape"], unfollowed := true, recurses := true, apart := false }
def FnMaximalSequenceSaid : Prop := fnMaximalSequenceRow.holds Try.pinned (OpenSpec.ofChange fnMaximalSequenceSpec)

/-- ITS FALSE NEIGHBOUR: 'it returns false'. Refute it at one input. -/
def fnMaximalSequenceWrong : ChangeSpec := { name := "fnMaximalSequence", fn := fun _ => fun
  | [d1, d2] => { results := [.lit (.bool false)], args := [d1, d2] }
  | _ => none }
def FnMaximalSequenceWrongFalsely : Prop := fnMaximalSequenceRow.holds Try.pinned (OpenSpec.ofChange fnMaximalSequenceWrong)

/-- 'laws.FnGoldBound': WHATEVER THE INPUT: true; the input reads as it did. -/
def fnGoldBoundSpec : ChangeSpec := { name := "fnGoldBound", fn := fun _ => fun
  | [d1, d2] => { results := [.lit (.bool true)], args := [d1, d2] }
  | _ => none }
def fnGoldBoundRow : OpenClaim := { program := "ytkkakfkebjdkeaa", sum := "56b900a3702926c5d8810496d5753df1b5aa5f21758a196e0f17bf0e6f3262da", func := "loop.example/spreadspectrum/laws.FnGoldBound", spec := "fnGoldBound", inPlace := ["internal/abi.NoEscape"], unfollowed := true, recurses := true, apart := false }
def FnGoldBoundSaid : Prop := fnGoldBoundRow.holds Try.pinned (OpenSpec.ofChange fnGoldBoundSpec)

/-- ITS FALSE NEIGHBOUR: 'it returns false'. Refute it at one input. -/
def fnGoldBoundWrong : ChangeSpec := { name := "fnGoldBound", fn := fun _ => fun
  | [d1, d2] => { results := [.lit (.bool false)], args := [d1, d2] }
  | _ => none }
def FnGoldBoundWrongFalsely : Prop := fnGoldBoundRow.holds Try.pinned (OpenSpec.ofChange fnGoldBoundWrong)

/- THE SECOND FORM. 'bulk': how many values and letters a reading holds, each counted each time it is reached (what is shared counts as often as it is met; a slice's spare places count too). A statement '..UptoSaid' is the law's where the arguments, and the package variables that the reading takes, are together of bulk at most 1048576: NARROWER than '..Said'. Prove '..Said' where nothing that the law and all that it calls make is longer than what came in: it says more and counts as full. Else prove '..UptoSaid'. A law counts once. -/
mutual
def uptoBulk {H : Type} : DataW H → Nat
  | .lit (.string bytes) => bytes.length + 1
  | .lit _ => 1
  | .nil => 1
  | .ptr d => uptoBulk d + 1
  | .slice elems spare => uptoBulkAll elems + uptoBulkAll spare + 1
  | .agg parts => uptoBulkAll parts + 1
  | .iface _ d => uptoBulk d + 1
  | .map entries => uptoBulkEntries entries + 1
  | .held _ => 1
def uptoBulkAll {H : Type} : List (DataW H) → Nat
  | [] => 0
  | d :: r => uptoBulk d + uptoBulkAll r
def uptoBulkEntries {H : Type} : List (Lit × DataW H) → Nat
  | [] => 0
  | x :: r => uptoBulkEntry x + uptoBulkEntries r
def uptoBulkEntry {H : Type} : Lit × DataW H → Nat
  | (.string bytes, d) => bytes.length + uptoBulk d + 1
  | (_, d) => uptoBulk d + 1
 end
def uptoSmall : (H : Type) → List (DataW H) → Bool := fun _ ds => decide (uptoBulkAll ds ≤ 1048576)
def OpenSpec.upto (s : _root_.Go.ChangeSpec) : _root_.Go.OpenSpec := { _root_.Go.OpenSpec.ofChange s with cond := some uptoSmall }

/-- 'laws.FnTransform', WHERE WHAT IT READS IS OF BULK AT MOST 1048576: true; the input reads as it did. -/
def fnTransformUptoRow : OpenClaim := { program := "ytkkakfkebjdkeaa", sum := "56b900a3702926c5d8810496d5753df1b5aa5f21758a196e0f17bf0e6f3262da", func := "loop.example/spreadspectrum/laws.FnTransform", spec := "fnTransform", apart := false, narrowed := true }
def FnTransformUptoSaid : Prop := fnTransformUptoRow.holds Try.pinned (OpenSpec.upto fnTransformSpec)

/-- 'laws.FnWorst', WHERE WHAT IT READS IS OF BULK AT MOST 1048576: true; the input reads as it did. -/
def fnWorstUptoRow : OpenClaim := { program := "ytkkakfkebjdkeaa", sum := "56b900a3702926c5d8810496d5753df1b5aa5f21758a196e0f17bf0e6f3262da", func := "loop.example/spreadspectrum/laws.FnWorst", spec := "fnWorst", recurses := true, apart := false, narrowed := true }
def FnWorstUptoSaid : Prop := fnWorstUptoRow.holds Try.pinned (OpenSpec.upto fnWorstSpec)

/-- 'laws.FnGoldCode', WHERE WHAT IT READS IS OF BULK AT MOST 1048576: true; the input reads as it did. -/
def fnGoldCodeUptoRow : OpenClaim := { program := "ytkkakfkebjdkeaa", sum := "56b900a3702926c5d8810496d5753df1b5aa5f21758a196e0f17bf0e6f3262da", func := "loop.example/spreadspectrum/laws.FnGoldCode", spec := "fnGoldCode", inPlace := ["internal/abi.NoEscape"], unfollowed := true, recurses := true, apart := false, narrowed := true }
def FnGoldCodeUptoSaid : Prop := fnGoldCodeUptoRow.holds Try.pinned (OpenSpec.upto fnGoldCodeSpec)

/-- 'laws.FnPreferredPairs', WHERE WHAT IT READS IS OF BULK AT MOST 1048576: true; the input reads as it did. -/
def fnPreferredPairsUptoRow : OpenClaim := { program := "ytkkakfkebjdkeaa", sum := "56b900a3702926c5d8810496d5753df1b5aa5f21758a196e0f17bf0e6f3262da", func := "loop.example/spreadspectrum/laws.FnPreferredPairs", spec := "fnPreferredPairs", inPlace := ["internal/abi.NoEscape"], unfollowed := true, recurses := true, apart := false, narrowed := true }
def FnPreferredPairsUptoSaid : Prop := fnPreferredPairsUptoRow.holds Try.pinned (OpenSpec.upto fnPreferredPairsSpec)

/-- 'laws.FnExactPreferredPairs', WHERE WHAT IT READS IS OF BULK AT MOST 1048576: true; the input reads as it did. -/
def fnExactPreferredPairsUptoRow : OpenClaim := { program := "ytkkakfkebjdkeaa", sum := "56b900a3702926c5d8810496d5753df1b5aa5f21758a196e0f17bf0e6f3262da", func := "loop.example/spreadspectrum/laws.FnExactPreferredPairs", spec := "fnExactPreferredPairs", inPlace := ["internal/abi.NoEscape"], unfollowed := true, recurses := true, apart := false, narrowed := true }
def FnExactPreferredPairsUptoSaid : Prop := fnExactPreferredPairsUptoRow.holds Try.pinned (OpenSpec.upto fnExactPreferredPairsSpec)

/-- 'laws.FnReverse', WHERE WHAT IT READS IS OF BULK AT MOST 1048576: true; the input reads as it did. -/
def fnReverseUptoRow : OpenClaim := { program := "ytkkakfkebjdkeaa", sum := "56b900a3702926c5d8810496d5753df1b5aa5f21758a196e0f17bf0e6f3262da", func := "loop.example/spreadspectrum/laws.FnReverse", spec := "fnReverse", inPlace := ["internal/abi.NoEscape"], unfollowed := true, recurses := true, apart := false, narrowed := true }
def FnReverseUptoSaid : Prop := fnReverseUptoRow.holds Try.pinned (OpenSpec.upto fnReverseSpec)

/-- 'laws.FnMaximalBits', WHERE WHAT IT READS IS OF BULK AT MOST 1048576: true; the input reads as it did. -/
def fnMaximalBitsUptoRow : OpenClaim := { program := "ytkkakfkebjdkeaa", sum := "56b900a3702926c5d8810496d5753df1b5aa5f21758a196e0f17bf0e6f3262da", func := "loop.example/spreadspectrum/laws.FnMaximalBits", spec := "fnMaximalBits", inPlace := ["internal/abi.NoEscape"], unfollowed := true, recurses := true, apart := false, narrowed := true }
def FnMaximalBitsUptoSaid : Prop := fnMaximalBitsUptoRow.holds Try.pinned (OpenSpec.upto fnMaximalBitsSpec)

/-- 'laws.FnMaximalFamily', WHERE WHAT IT READS IS OF BULK AT MOST 1048576: true; the input reads as it did. -/
def fnMaximalFamilyUptoRow : OpenClaim := { program := "ytkkakfkebjdkeaa", sum := "56b900a3702926c5d8810496d5753df1b5aa5f21758a196e0f17bf0e6f3262da", func := "loop.example/spreadspectrum/laws.FnMaximalFamily", spec := "fnMaximalFamily", inPlace := ["internal/abi.NoEscape"], unfollowed := true, recurses := true, apart := false, narrowed := true }
def FnMaximalFamilyUptoSaid : Prop := fnMaximalFamilyUptoRow.holds Try.pinned (OpenSpec.upto fnMaximalFamilySpec)

/-- 'laws.FnMaximalSequence', WHERE WHAT IT READS IS OF BULK AT MOST 1048576: true; the input reads as it did. -/
def fnMaximalSequenceUptoRow : OpenClaim := { program := "ytkkakfkebjdkeaa", sum := "56b900a3702926c5d8810496d5753df1b5aa5f21758a196e0f17bf0e6f3262da", func := "loop.example/spreadspectrum/laws.FnMaximalSequence", spec := "fnMaximalSequence", inPlace := ["internal/abi.NoEscape"], unfollowed := true, recurses := true, apart := false, narrowed := true }
def FnMaximalSequenceUptoSaid : Prop := fnMaximalSequenceUptoRow.holds Try.pinned (OpenSpec.upto fnMaximalSequenceSpec)

/-- 'laws.FnGoldBound', WHERE WHAT IT READS IS OF BULK AT MOST 1048576: true; the input reads as it did. -/
def fnGoldBoundUptoRow : OpenClaim := { program := "ytkkakfkebjdkeaa", sum := "56b900a3702926c5d8810496d5753df1b5aa5f21758a196e0f17bf0e6f3262da", func := "loop.example/spreadspectrum/laws.FnGoldBound", spec := "fnGoldBound", inPlace := ["internal/abi.NoEscape"], unfollowed := true, recurses := true, apart := false, narrowed := true }
def FnGoldBoundUptoSaid : Prop := fnGoldBoundUptoRow.holds Try.pinned (OpenSpec.upto fnGoldBoundSpec)

end Rows
end Go.Proofs.Ytkkakfkebjdkeaa
