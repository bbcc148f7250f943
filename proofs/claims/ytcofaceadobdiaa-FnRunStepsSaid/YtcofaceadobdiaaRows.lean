/-
  No cell of these rows narrows 'for every input' (looked for: loops, veiled, ifaces, maps, wideKeys, modest, calm, conditions, laid).
  DERIVED. THE GIVEN ROWS OF THIS SEAT. 12 by the template 'for every input the law returns true; each argument reads behind the call as it read before'; 0 by the template 'total and deterministic' (their statements: YtcofaceadobdiaaTotals.lean).
  GIVEN WITH THE SEED: the statements are not yours to turn. If you find one false, say at which input.
  Laid BY PROGRAM, IN A SANDBOX (cutbox-rows.mjs): the forced cells as the released guide's own fill.sh prints them over the translation 66a8e97829461db4… (all of the seat's roots in one cut). By AI agents, Wed Nov 11 2026. No macro, syntax, notation, axiom, sorry.
-/
import Derived.Test.YtcofaceadobdiaaChecked
import GoSem.Claim
import GoSem.ClaimJoined
import GoSem.ClaimMapViews
import Derived.JoinedTies
import Derived.KernelRfl
namespace Go.Proofs.Ytcofaceadobdiaa
/- THE CELL 'sum', in the pinned program and in every row, IS THE sha256 OF THE DUMP (.gsa) THAT YtcofaceadobdiaaProg.lean LOADS. Nothing in Lean hashes anything: it is a label: what it is worth is what the hold of that sum in a sandbox is worth. -/
noncomputable def Try.pinned : Pinned := { name := "ytcofaceadobdiaa", sum := "66a8e97829461db4cca5069cd6bf3d0fe5cc9837698d006b15f6232dc04893e4", checked := Try.checked }
namespace Rows
def none {H : Type} : Left H := { results := [], args := [] }

/-- 'laws.FnExactRunRegister': WHATEVER THE INPUT: true; the input reads as it did. -/
def fnExactRunRegisterSpec : ChangeSpec := { name := "fnExactRunRegister", fn := fun _ => fun
  | [d1, d2] => { results := [.lit (.bool true)], args := [d1, d2] }
  | _ => none }
def fnExactRunRegisterRow : OpenClaim := { program := "ytcofaceadobdiaa", sum := "66a8e97829461db4cca5069cd6bf3d0fe5cc9837698d006b15f6232dc04893e4", func := "loop.example/spreadspectrum/laws.FnExactRunRegister", spec := "fnExactRunRegister", inPlace := ["internal/abi.NoEscape"], unfollowed := true, recurses := true, apart := false }
def FnExactRunRegisterSaid : Prop := fnExactRunRegisterRow.holds Try.pinned (OpenSpec.ofChange fnExactRunRegisterSpec)

/-- ITS FALSE NEIGHBOUR: 'it returns false'. Refute it at one input. -/
def fnExactRunRegisterWrong : ChangeSpec := { name := "fnExactRunRegister", fn := fun _ => fun
  | [d1, d2] => { results := [.lit (.bool false)], args := [d1, d2] }
  | _ => none }
def FnExactRunRegisterWrongFalsely : Prop := fnExactRunRegisterRow.holds Try.pinned (OpenSpec.ofChange fnExactRunRegisterWrong)

/-- 'laws.FnExactAddRegisters': WHATEVER THE INPUT: true; the input reads as it did. -/
def fnExactAddRegistersSpec : ChangeSpec := { name := "fnExactAddRegisters", fn := fun _ => fun
  | [d1, d2] => { results := [.lit (.bool true)], args := [d1, d2] }
  | _ => none }
def fnExactAddRegistersRow : OpenClaim := { program := "ytcofaceadobdiaa", sum := "66a8e97829461db4cca5069cd6bf3d0fe5cc9837698d006b15f6232dc04893e4", func := "loop.example/spreadspectrum/laws.FnExactAddRegisters", spec := "fnExactAddRegisters", apart := false }
def FnExactAddRegistersSaid : Prop := fnExactAddRegistersRow.holds Try.pinned (OpenSpec.ofChange fnExactAddRegistersSpec)

/-- ITS FALSE NEIGHBOUR: 'it returns false'. Refute it at one input. -/
def fnExactAddRegistersWrong : ChangeSpec := { name := "fnExactAddRegisters", fn := fun _ => fun
  | [d1, d2] => { results := [.lit (.bool false)], args := [d1, d2] }
  | _ => none }
def FnExactAddRegistersWrongFalsely : Prop := fnExactAddRegistersRow.holds Try.pinned (OpenSpec.ofChange fnExactAddRegistersWrong)

/-- 'laws.FnExactCycleLengths': WHATEVER THE INPUT: true; the input reads as it did. -/
def fnExactCycleLengthsSpec : ChangeSpec := { name := "fnExactCycleLengths", fn := fun _ => fun
  | [d1, d2] => { results := [.lit (.bool true)], args := [d1, d2] }
  | _ => none }
def fnExactCycleLengthsRow : OpenClaim := { program := "ytcofaceadobdiaa", sum := "66a8e97829461db4cca5069cd6bf3d0fe5cc9837698d006b15f6232dc04893e4", func := "loop.example/spreadspectrum/laws.FnExactCycleLengths", spec := "fnExactCycleLengths", recurses := true, apart := false }
def FnExactCycleLengthsSaid : Prop := fnExactCycleLengthsRow.holds Try.pinned (OpenSpec.ofChange fnExactCycleLengthsSpec)

/-- ITS FALSE NEIGHBOUR: 'it returns false'. Refute it at one input. -/
def fnExactCycleLengthsWrong : ChangeSpec := { name := "fnExactCycleLengths", fn := fun _ => fun
  | [d1, d2] => { results := [.lit (.bool false)], args := [d1, d2] }
  | _ => none }
def FnExactCycleLengthsWrongFalsely : Prop := fnExactCycleLengthsRow.holds Try.pinned (OpenSpec.ofChange fnExactCycleLengthsWrong)

/-- 'laws.FnExactShortestRegister': WHATEVER THE INPUT: true; the input reads as it did. -/
def fnExactShortestRegisterSpec : ChangeSpec := { name := "fnExactShortestRegister", fn := fun _ => fun
  | [d] => { results := [.lit (.bool true)], args := [d] }
  | _ => none }
def fnExactShortestRegisterRow : OpenClaim := { program := "ytcofaceadobdiaa", sum := "66a8e97829461db4cca5069cd6bf3d0fe5cc9837698d006b15f6232dc04893e4", func := "loop.example/spreadspectrum/laws.FnExactShortestRegister", spec := "fnExactShortestRegister", unfollowed := true, recurses := true, apart := false }
def FnExactShortestRegisterSaid : Prop := fnExactShortestRegisterRow.holds Try.pinned (OpenSpec.ofChange fnExactShortestRegisterSpec)

/-- ITS FALSE NEIGHBOUR: 'it returns false'. Refute it at one input. -/
def fnExactShortestRegisterWrong : ChangeSpec := { name := "fnExactShortestRegister", fn := fun _ => fun
  | [d] => { results := [.lit (.bool false)], args := [d] }
  | _ => none }
def FnExactShortestRegisterWrongFalsely : Prop := fnExactShortestRegisterRow.holds Try.pinned (OpenSpec.ofChange fnExactShortestRegisterWrong)

/-- 'laws.FnExactMaximalSequence': WHATEVER THE INPUT: true; the input reads as it did. -/
def fnExactMaximalSequenceSpec : ChangeSpec := { name := "fnExactMaximalSequence", fn := fun _ => fun
  | [d1, d2] => { results := [.lit (.bool true)], args := [d1, d2] }
  | _ => none }
def fnExactMaximalSequenceRow : OpenClaim := { program := "ytcofaceadobdiaa", sum := "66a8e97829461db4cca5069cd6bf3d0fe5cc9837698d006b15f6232dc04893e4", func := "loop.example/spreadspectrum/laws.FnExactMaximalSequence", spec := "fnExactMaximalSequence", inPlace := ["internal/abi.NoEscape"], unfollowed := true, recurses := true, apart := false }
def FnExactMaximalSequenceSaid : Prop := fnExactMaximalSequenceRow.holds Try.pinned (OpenSpec.ofChange fnExactMaximalSequenceSpec)

/-- ITS FALSE NEIGHBOUR: 'it returns false'. Refute it at one input. -/
def fnExactMaximalSequenceWrong : ChangeSpec := { name := "fnExactMaximalSequence", fn := fun _ => fun
  | [d1, d2] => { results := [.lit (.bool false)], args := [d1, d2] }
  | _ => none }
def FnExactMaximalSequenceWrongFalsely : Prop := fnExactMaximalSequenceRow.holds Try.pinned (OpenSpec.ofChange fnExactMaximalSequenceWrong)

/-- 'laws.FnExactIsPreferred': WHATEVER THE INPUT: true; the input reads as it did. -/
def fnExactIsPreferredSpec : ChangeSpec := { name := "fnExactIsPreferred", fn := fun _ => fun
  | [d1, d2, d3] => { results := [.lit (.bool true)], args := [d1, d2, d3] }
  | _ => none }
def fnExactIsPreferredRow : OpenClaim := { program := "ytcofaceadobdiaa", sum := "66a8e97829461db4cca5069cd6bf3d0fe5cc9837698d006b15f6232dc04893e4", func := "loop.example/spreadspectrum/laws.FnExactIsPreferred", spec := "fnExactIsPreferred", inPlace := ["internal/abi.NoEscape"], unfollowed := true, recurses := true, apart := false }
def FnExactIsPreferredSaid : Prop := fnExactIsPreferredRow.holds Try.pinned (OpenSpec.ofChange fnExactIsPreferredSpec)

/-- ITS FALSE NEIGHBOUR: 'it returns false'. Refute it at one input. -/
def fnExactIsPreferredWrong : ChangeSpec := { name := "fnExactIsPreferred", fn := fun _ => fun
  | [d1, d2, d3] => { results := [.lit (.bool false)], args := [d1, d2, d3] }
  | _ => none }
def FnExactIsPreferredWrongFalsely : Prop := fnExactIsPreferredRow.holds Try.pinned (OpenSpec.ofChange fnExactIsPreferredWrong)

/-- 'laws.FnExactPreferredPairs': WHATEVER THE INPUT: true; the input reads as it did. -/
def fnExactPreferredPairsSpec : ChangeSpec := { name := "fnExactPreferredPairs", fn := fun _ => fun
  | [d] => { results := [.lit (.bool true)], args := [d] }
  | _ => none }
def fnExactPreferredPairsRow : OpenClaim := { program := "ytcofaceadobdiaa", sum := "66a8e97829461db4cca5069cd6bf3d0fe5cc9837698d006b15f6232dc04893e4", func := "loop.example/spreadspectrum/laws.FnExactPreferredPairs", spec := "fnExactPreferredPairs", inPlace := ["internal/abi.NoEscape"], unfollowed := true, recurses := true, apart := false }
def FnExactPreferredPairsSaid : Prop := fnExactPreferredPairsRow.holds Try.pinned (OpenSpec.ofChange fnExactPreferredPairsSpec)

/-- ITS FALSE NEIGHBOUR: 'it returns false'. Refute it at one input. -/
def fnExactPreferredPairsWrong : ChangeSpec := { name := "fnExactPreferredPairs", fn := fun _ => fun
  | [d] => { results := [.lit (.bool false)], args := [d] }
  | _ => none }
def FnExactPreferredPairsWrongFalsely : Prop := fnExactPreferredPairsRow.holds Try.pinned (OpenSpec.ofChange fnExactPreferredPairsWrong)

/-- 'laws.FnExactGoldCode': WHATEVER THE INPUT: true; the input reads as it did. -/
def fnExactGoldCodeSpec : ChangeSpec := { name := "fnExactGoldCode", fn := fun _ => fun
  | [d1, d2, d3, d4] => { results := [.lit (.bool true)], args := [d1, d2, d3, d4] }
  | _ => none }
def fnExactGoldCodeRow : OpenClaim := { program := "ytcofaceadobdiaa", sum := "66a8e97829461db4cca5069cd6bf3d0fe5cc9837698d006b15f6232dc04893e4", func := "loop.example/spreadspectrum/laws.FnExactGoldCode", spec := "fnExactGoldCode", inPlace := ["internal/abi.NoEscape"], unfollowed := true, recurses := true, apart := false }
def FnExactGoldCodeSaid : Prop := fnExactGoldCodeRow.holds Try.pinned (OpenSpec.ofChange fnExactGoldCodeSpec)

/-- ITS FALSE NEIGHBOUR: 'it returns false'. Refute it at one input. -/
def fnExactGoldCodeWrong : ChangeSpec := { name := "fnExactGoldCode", fn := fun _ => fun
  | [d1, d2, d3, d4] => { results := [.lit (.bool false)], args := [d1, d2, d3, d4] }
  | _ => none }
def FnExactGoldCodeWrongFalsely : Prop := fnExactGoldCodeRow.holds Try.pinned (OpenSpec.ofChange fnExactGoldCodeWrong)

/-- 'laws.FnExactGoldFamily': WHATEVER THE INPUT: true; the input reads as it did. -/
def fnExactGoldFamilySpec : ChangeSpec := { name := "fnExactGoldFamily", fn := fun _ => fun
  | [d1, d2, d3] => { results := [.lit (.bool true)], args := [d1, d2, d3] }
  | _ => none }
def fnExactGoldFamilyRow : OpenClaim := { program := "ytcofaceadobdiaa", sum := "66a8e97829461db4cca5069cd6bf3d0fe5cc9837698d006b15f6232dc04893e4", func := "loop.example/spreadspectrum/laws.FnExactGoldFamily", spec := "fnExactGoldFamily", inPlace := ["internal/abi.NoEscape"], unfollowed := true, recurses := true, apart := false }
def FnExactGoldFamilySaid : Prop := fnExactGoldFamilyRow.holds Try.pinned (OpenSpec.ofChange fnExactGoldFamilySpec)

/-- ITS FALSE NEIGHBOUR: 'it returns false'. Refute it at one input. -/
def fnExactGoldFamilyWrong : ChangeSpec := { name := "fnExactGoldFamily", fn := fun _ => fun
  | [d1, d2, d3] => { results := [.lit (.bool false)], args := [d1, d2, d3] }
  | _ => none }
def FnExactGoldFamilyWrongFalsely : Prop := fnExactGoldFamilyRow.holds Try.pinned (OpenSpec.ofChange fnExactGoldFamilyWrong)

/-- 'laws.FnRegisterFrom': WHATEVER THE INPUT: true; the input reads as it did. -/
def fnRegisterFromSpec : ChangeSpec := { name := "fnRegisterFrom", fn := fun _ => fun
  | [d] => { results := [.lit (.bool true)], args := [d] }
  | _ => none }
def fnRegisterFromRow : OpenClaim := { program := "ytcofaceadobdiaa", sum := "66a8e97829461db4cca5069cd6bf3d0fe5cc9837698d006b15f6232dc04893e4", func := "loop.example/spreadspectrum/laws.FnRegisterFrom", spec := "fnRegisterFrom", inPlace := ["internal/abi.NoEscape"], unfollowed := true, recurses := true, apart := false }
def FnRegisterFromSaid : Prop := fnRegisterFromRow.holds Try.pinned (OpenSpec.ofChange fnRegisterFromSpec)

/-- ITS FALSE NEIGHBOUR: 'it returns false'. Refute it at one input. -/
def fnRegisterFromWrong : ChangeSpec := { name := "fnRegisterFrom", fn := fun _ => fun
  | [d] => { results := [.lit (.bool false)], args := [d] }
  | _ => none }
def FnRegisterFromWrongFalsely : Prop := fnRegisterFromRow.holds Try.pinned (OpenSpec.ofChange fnRegisterFromWrong)

/-- 'laws.FnStepBits': WHATEVER THE INPUT: true; the input reads as it did. -/
def fnStepBitsSpec : ChangeSpec := { name := "fnStepBits", fn := fun _ => fun
  | [d] => { results := [.lit (.bool true)], args := [d] }
  | _ => none }
def fnStepBitsRow : OpenClaim := { program := "ytcofaceadobdiaa", sum := "66a8e97829461db4cca5069cd6bf3d0fe5cc9837698d006b15f6232dc04893e4", func := "loop.example/spreadspectrum/laws.FnStepBits", spec := "fnStepBits", inPlace := ["internal/abi.NoEscape"], unfollowed := true, recurses := true, apart := false }
def FnStepBitsSaid : Prop := fnStepBitsRow.holds Try.pinned (OpenSpec.ofChange fnStepBitsSpec)

/-- ITS FALSE NEIGHBOUR: 'it returns false'. Refute it at one input. -/
def fnStepBitsWrong : ChangeSpec := { name := "fnStepBits", fn := fun _ => fun
  | [d] => { results := [.lit (.bool false)], args := [d] }
  | _ => none }
def FnStepBitsWrongFalsely : Prop := fnStepBitsRow.holds Try.pinned (OpenSpec.ofChange fnStepBitsWrong)

/-- 'laws.FnRunSteps': WHATEVER THE INPUT: true; the input reads as it did. -/
def fnRunStepsSpec : ChangeSpec := { name := "fnRunSteps", fn := fun _ => fun
  | [d1, d2] => { results := [.lit (.bool true)], args := [d1, d2] }
  | _ => none }
def fnRunStepsRow : OpenClaim := { program := "ytcofaceadobdiaa", sum := "66a8e97829461db4cca5069cd6bf3d0fe5cc9837698d006b15f6232dc04893e4", func := "loop.example/spreadspectrum/laws.FnRunSteps", spec := "fnRunSteps", inPlace := ["internal/abi.NoEscape"], unfollowed := true, recurses := true, apart := false }
def FnRunStepsSaid : Prop := fnRunStepsRow.holds Try.pinned (OpenSpec.ofChange fnRunStepsSpec)

/-- ITS FALSE NEIGHBOUR: 'it returns false'. Refute it at one input. -/
def fnRunStepsWrong : ChangeSpec := { name := "fnRunSteps", fn := fun _ => fun
  | [d1, d2] => { results := [.lit (.bool false)], args := [d1, d2] }
  | _ => none }
def FnRunStepsWrongFalsely : Prop := fnRunStepsRow.holds Try.pinned (OpenSpec.ofChange fnRunStepsWrong)

/- THE SECOND FORM. 'bulk': how many values and letters a reading holds, each counted each time it is reached (what is shared counts as often as it is met; a slice's spare places count too). A statement '..UptoSaid' is the law's where the arguments, and the package variables that the reading takes, are together of bulk at most 1048576: NARROWER than '..Said'. Prove '..Said' where nothing that the law and all that it calls make is longer than what came in: it says more and counts as full. Else prove '..UptoSaid'. A law counts once. -/
mutual
def uptoBulk {H : Type} : DataW H → Nat
  | .lit (.string bytes) => bytes.length + 1
  | .lit _ => 1
  | .nil => 1
  | .ptr d => uptoBulk d + 1
  | .slice elems spare => uptoBulkAll elems + uptoBulkAll spare + 1
  | .agg parts => uptoBulkAll parts + 1
  | .iface _ d => uptoBulk d + 1
  | .map entries => uptoBulkEntries entries + 1
  | .held _ => 1
def uptoBulkAll {H : Type} : List (DataW H) → Nat
  | [] => 0
  | d :: r => uptoBulk d + uptoBulkAll r
def uptoBulkEntries {H : Type} : List (Lit × DataW H) → Nat
  | [] => 0
  | x :: r => uptoBulkEntry x + uptoBulkEntries r
def uptoBulkEntry {H : Type} : Lit × DataW H → Nat
  | (.string bytes, d) => bytes.length + uptoBulk d + 1
  | (_, d) => uptoBulk d + 1
 end
def uptoSmall : (H : Type) → List (DataW H) → Bool := fun _ ds => decide (uptoBulkAll ds ≤ 1048576)
def OpenSpec.upto (s : _root_.Go.ChangeSpec) : _root_.Go.OpenSpec := { _root_.Go.OpenSpec.ofChange s with cond := some uptoSmall }

/-- 'laws.FnExactRunRegister', WHERE WHAT IT READS IS OF BULK AT MOST 1048576: true; the input reads as it did. -/
def fnExactRunRegisterUptoRow : OpenClaim := { program := "ytcofaceadobdiaa", sum := "66a8e97829461db4cca5069cd6bf3d0fe5cc9837698d006b15f6232dc04893e4", func := "loop.example/spreadspectrum/laws.FnExactRunRegister", spec := "fnExactRunRegister", inPlace := ["internal/abi.NoEscape"], unfollowed := true, recurses := true, apart := false, narrowed := true }
def FnExactRunRegisterUptoSaid : Prop := fnExactRunRegisterUptoRow.holds Try.pinned (OpenSpec.upto fnExactRunRegisterSpec)

/-- 'laws.FnExactAddRegisters', WHERE WHAT IT READS IS OF BULK AT MOST 1048576: true; the input reads as it did. -/
def fnExactAddRegistersUptoRow : OpenClaim := { program := "ytcofaceadobdiaa", sum := "66a8e97829461db4cca5069cd6bf3d0fe5cc9837698d006b15f6232dc04893e4", func := "loop.example/spreadspectrum/laws.FnExactAddRegisters", spec := "fnExactAddRegisters", apart := false, narrowed := true }
def FnExactAddRegistersUptoSaid : Prop := fnExactAddRegistersUptoRow.holds Try.pinned (OpenSpec.upto fnExactAddRegistersSpec)

/-- 'laws.FnExactCycleLengths', WHERE WHAT IT READS IS OF BULK AT MOST 1048576: true; the input reads as it did. -/
def fnExactCycleLengthsUptoRow : OpenClaim := { program := "ytcofaceadobdiaa", sum := "66a8e97829461db4cca5069cd6bf3d0fe5cc9837698d006b15f6232dc04893e4", func := "loop.example/spreadspectrum/laws.FnExactCycleLengths", spec := "fnExactCycleLengths", recurses := true, apart := false, narrowed := true }
def FnExactCycleLengthsUptoSaid : Prop := fnExactCycleLengthsUptoRow.holds Try.pinned (OpenSpec.upto fnExactCycleLengthsSpec)

/-- 'laws.FnExactShortestRegister', WHERE WHAT IT READS IS OF BULK AT MOST 1048576: true; the input reads as it did. -/
def fnExactShortestRegisterUptoRow : OpenClaim := { program := "ytcofaceadobdiaa", sum := "66a8e97829461db4cca5069cd6bf3d0fe5cc9837698d006b15f6232dc04893e4", func := "loop.example/spreadspectrum/laws.FnExactShortestRegister", spec := "fnExactShortestRegister", unfollowed := true, recurses := true, apart := false, narrowed := true }
def FnExactShortestRegisterUptoSaid : Prop := fnExactShortestRegisterUptoRow.holds Try.pinned (OpenSpec.upto fnExactShortestRegisterSpec)

/-- 'laws.FnExactMaximalSequence', WHERE WHAT IT READS IS OF BULK AT MOST 1048576: true; the input reads as it did. -/
def fnExactMaximalSequenceUptoRow : OpenClaim := { program := "ytcofaceadobdiaa", sum := "66a8e97829461db4cca5069cd6bf3d0fe5cc9837698d006b15f6232dc04893e4", func := "loop.example/spreadspectrum/laws.FnExactMaximalSequence", spec := "fnExactMaximalSequence", inPlace := ["internal/abi.NoEscape"], unfollowed := true, recurses := true, apart := false, narrowed := true }
def FnExactMaximalSequenceUptoSaid : Prop := fnExactMaximalSequenceUptoRow.holds Try.pinned (OpenSpec.upto fnExactMaximalSequenceSpec)

/-- 'laws.FnExactIsPreferred', WHERE WHAT IT READS IS OF BULK AT MOST 1048576: true; the input reads as it did. -/
def fnExactIsPreferredUptoRow : OpenClaim := { program := "ytcofaceadobdiaa", sum := "66a8e97829461db4cca5069cd6bf3d0fe5cc9837698d006b15f6232dc04893e4", func := "loop.example/spreadspectrum/laws.FnExactIsPreferred", spec := "fnExactIsPreferred", inPlace := ["internal/abi.NoEscape"], unfollowed := true, recurses := true, apart := false, narrowed := true }
def FnExactIsPreferredUptoSaid : Prop := fnExactIsPreferredUptoRow.holds Try.pinned (OpenSpec.upto fnExactIsPreferredSpec)

/-- 'laws.FnExactPreferredPairs', WHERE WHAT IT READS IS OF BULK AT MOST 1048576: true; the input reads as it did. -/
def fnExactPreferredPairsUptoRow : OpenClaim := { program := "ytcofaceadobdiaa", sum := "66a8e97829461db4cca5069cd6bf3d0fe5cc9837698d006b15f6232dc04893e4", func := "loop.example/spreadspectrum/laws.FnExactPreferredPairs", spec := "fnExactPreferredPairs", inPlace := ["internal/abi.NoEscape"], unfollowed := true, recurses := true, apart := false, narrowed := true }
def FnExactPreferredPairsUptoSaid : Prop := fnExactPreferredPairsUptoRow.holds Try.pinned (OpenSpec.upto fnExactPreferredPairsSpec)

/-- 'laws.FnExactGoldCode', WHERE WHAT IT READS IS OF BULK AT MOST 1048576: true; the input reads as it did. -/
def fnExactGoldCodeUptoRow : OpenClaim := { program := "ytcofaceadobdiaa", sum := "66a8e97829461db4cca5069cd6bf3d0fe5cc9837698d006b15f6232dc04893e4", func := "loop.example/spreadspectrum/laws.FnExactGoldCode", spec := "fnExactGoldCode", inPlace := ["internal/abi.NoEscape"], unfollowed := true, recurses := true, apart := false, narrowed := true }
def FnExactGoldCodeUptoSaid : Prop := fnExactGoldCodeUptoRow.holds Try.pinned (OpenSpec.upto fnExactGoldCodeSpec)

/-- 'laws.FnExactGoldFamily', WHERE WHAT IT READS IS OF BULK AT MOST 1048576: true; the input reads as it did. -/
def fnExactGoldFamilyUptoRow : OpenClaim := { program := "ytcofaceadobdiaa", sum := "66a8e97829461db4cca5069cd6bf3d0fe5cc9837698d006b15f6232dc04893e4", func := "loop.example/spreadspectrum/laws.FnExactGoldFamily", spec := "fnExactGoldFamily", inPlace := ["internal/abi.NoEscape"], unfollowed := true, recurses := true, apart := false, narrowed := true }
def FnExactGoldFamilyUptoSaid : Prop := fnExactGoldFamilyUptoRow.holds Try.pinned (OpenSpec.upto fnExactGoldFamilySpec)

/-- 'laws.FnRegisterFrom', WHERE WHAT IT READS IS OF BULK AT MOST 1048576: true; the input reads as it did. -/
def fnRegisterFromUptoRow : OpenClaim := { program := "ytcofaceadobdiaa", sum := "66a8e97829461db4cca5069cd6bf3d0fe5cc9837698d006b15f6232dc04893e4", func := "loop.example/spreadspectrum/laws.FnRegisterFrom", spec := "fnRegisterFrom", inPlace := ["internal/abi.NoEscape"], unfollowed := true, recurses := true, apart := false, narrowed := true }
def FnRegisterFromUptoSaid : Prop := fnRegisterFromUptoRow.holds Try.pinned (OpenSpec.upto fnRegisterFromSpec)

/-- 'laws.FnStepBits', WHERE WHAT IT READS IS OF BULK AT MOST 1048576: true; the input reads as it did. -/
def fnStepBitsUptoRow : OpenClaim := { program := "ytcofaceadobdiaa", sum := "66a8e97829461db4cca5069cd6bf3d0fe5cc9837698d006b15f6232dc04893e4", func := "loop.example/spreadspectrum/laws.FnStepBits", spec := "fnStepBits", inPlace := ["internal/abi.NoEscape"], unfollowed := true, recurses := true, apart := false, narrowed := true }
def FnStepBitsUptoSaid : Prop := fnStepBitsUptoRow.holds Try.pinned (OpenSpec.upto fnStepBitsSpec)

/-- 'laws.FnRunSteps', WHERE WHAT IT READS IS OF BULK AT MOST 1048576: true; the input reads as it did. -/
def fnRunStepsUptoRow : OpenClaim := { program := "ytcofaceadobdiaa", sum := "66a8e97829461db4cca5069cd6bf3d0fe5cc9837698d006b15f6232dc04893e4", func := "loop.example/spreadspectrum/laws.FnRunSteps", spec := "fnRunSteps", inPlace := ["internal/abi.NoEscape"], unfollowed := true, recurses := true, apart := false, narrowed := true }
def FnRunStepsUptoSaid : Prop := fnRunStepsUptoRow.holds Try.pinned (OpenSpec.upto fnRunStepsSpec)

end Rows
end Go.Proofs.Ytcofaceadobdiaa
