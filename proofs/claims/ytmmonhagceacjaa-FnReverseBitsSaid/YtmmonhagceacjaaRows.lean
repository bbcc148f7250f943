/-
  No cell of these rows narrows 'for every input' (looked for: loops, veiled, ifaces, maps, wideKeys, modest, calm, conditions, laid).
  DERIVED. THE GIVEN ROWS OF THIS SEAT. 10 by the template 'for every input the law returns true; each argument reads behind the call as it read before'; 0 by the template 'total and deterministic' (their statements: YtmmonhagceacjaaTotals.lean).
  GIVEN WITH THE SEED: the statements are not yours to turn. If you find one false, say at which input.
  Laid BY PROGRAM, IN A SANDBOX (cutbox-rows.mjs): the forced cells as the released guide's own fill.sh prints them over the translation 00a62ef0be92f331… (all of the seat's roots in one cut). By AI agents, Wed Nov 11 2026. No macro, syntax, notation, axiom, sorry.
-/
import Derived.Test.YtmmonhagceacjaaChecked
import GoSem.Claim
import GoSem.ClaimJoined
import GoSem.ClaimMapViews
import Derived.JoinedTies
import Derived.KernelRfl
namespace Go.Proofs.Ytmmonhagceacjaa
/- THE CELL 'sum', in the pinned program and in every row, IS THE sha256 OF THE DUMP (.gsa) THAT YtmmonhagceacjaaProg.lean LOADS. Nothing in Lean hashes anything: it is a label: what it is worth is what the hold of that sum in a sandbox is worth. -/
noncomputable def Try.pinned : Pinned := { name := "ytmmonhagceacjaa", sum := "00a62ef0be92f3312965a9fc9169946f650ef56dfbbe3f5ef46727970d837bc0", checked := Try.checked }
namespace Rows
def none {H : Type} : Left H := { results := [], args := [] }

/-- 'laws.FnStepBits': WHATEVER THE INPUT: true; the input reads as it did. -/
def fnStepBitsSpec : ChangeSpec := { name := "fnStepBits", fn := fun _ => fun
  | [d] => { results := [.lit (.bool true)], args := [d] }
  | _ => none }
def fnStepBitsRow : OpenClaim := { program := "ytmmonhagceacjaa", sum := "00a62ef0be92f3312965a9fc9169946f650ef56dfbbe3f5ef46727970d837bc0", func := "loop.example/spreadspectrum/laws.FnStepBits", spec := "fnStepBits", inPlace := ["internal/abi.NoEscape"], unfollowed := true, recurses := true, apart := false }
def FnStepBitsSaid : Prop := fnStepBitsRow.holds Try.pinned (OpenSpec.ofChange fnStepBitsSpec)

/-- ITS FALSE NEIGHBOUR: 'it returns false'. Refute it at one input. -/
def fnStepBitsWrong : ChangeSpec := { name := "fnStepBits", fn := fun _ => fun
  | [d] => { results := [.lit (.bool false)], args := [d] }
  | _ => none }
def FnStepBitsWrongFalsely : Prop := fnStepBitsRow.holds Try.pinned (OpenSpec.ofChange fnStepBitsWrong)

/-- 'laws.FnRegisterFrom': WHATEVER THE INPUT: true; the input reads as it did. -/
def fnRegisterFromSpec : ChangeSpec := { name := "fnRegisterFrom", fn := fun _ => fun
  | [d] => { results := [.lit (.bool true)], args := [d] }
  | _ => none }
def fnRegisterFromRow : OpenClaim := { program := "ytmmonhagceacjaa", sum := "00a62ef0be92f3312965a9fc9169946f650ef56dfbbe3f5ef46727970d837bc0", func := "loop.example/spreadspectrum/laws.FnRegisterFrom", spec := "fnRegisterFrom", inPlace := ["internal/abi.NoEscape"], unfollowed := true, recurses := true, apart := false }
def FnRegisterFromSaid : Prop := fnRegisterFromRow.holds Try.pinned (OpenSpec.ofChange fnRegisterFromSpec)

/-- ITS FALSE NEIGHBOUR: 'it returns false'. Refute it at one input. -/
def fnRegisterFromWrong : ChangeSpec := { name := "fnRegisterFrom", fn := fun _ => fun
  | [d] => { results := [.lit (.bool false)], args := [d] }
  | _ => none }
def FnRegisterFromWrongFalsely : Prop := fnRegisterFromRow.holds Try.pinned (OpenSpec.ofChange fnRegisterFromWrong)

/-- 'laws.FnAddRegisters': WHATEVER THE INPUT: true; the input reads as it did. -/
def fnAddRegistersSpec : ChangeSpec := { name := "fnAddRegisters", fn := fun _ => fun
  | [d] => { results := [.lit (.bool true)], args := [d] }
  | _ => none }
def fnAddRegistersRow : OpenClaim := { program := "ytmmonhagceacjaa", sum := "00a62ef0be92f3312965a9fc9169946f650ef56dfbbe3f5ef46727970d837bc0", func := "loop.example/spreadspectrum/laws.FnAddRegisters", spec := "fnAddRegisters", inPlace := ["internal/abi.NoEscape"], unfollowed := true, recurses := true, apart := false }
def FnAddRegistersSaid : Prop := fnAddRegistersRow.holds Try.pinned (OpenSpec.ofChange fnAddRegistersSpec)

/-- ITS FALSE NEIGHBOUR: 'it returns false'. Refute it at one input. -/
def fnAddRegistersWrong : ChangeSpec := { name := "fnAddRegisters", fn := fun _ => fun
  | [d] => { results := [.lit (.bool false)], args := [d] }
  | _ => none }
def FnAddRegistersWrongFalsely : Prop := fnAddRegistersRow.holds Try.pinned (OpenSpec.ofChange fnAddRegistersWrong)

/-- 'laws.FnPeriod': WHATEVER THE INPUT: true; the input reads as it did. -/
def fnPeriodSpec : ChangeSpec := { name := "fnPeriod", fn := fun _ => fun
  | [d] => { results := [.lit (.bool true)], args := [d] }
  | _ => none }
def fnPeriodRow : OpenClaim := { program := "ytmmonhagceacjaa", sum := "00a62ef0be92f3312965a9fc9169946f650ef56dfbbe3f5ef46727970d837bc0", func := "loop.example/spreadspectrum/laws.FnPeriod", spec := "fnPeriod", apart := false }
def FnPeriodSaid : Prop := fnPeriodRow.holds Try.pinned (OpenSpec.ofChange fnPeriodSpec)

/-- ITS FALSE NEIGHBOUR: 'it returns false'. Refute it at one input. -/
def fnPeriodWrong : ChangeSpec := { name := "fnPeriod", fn := fun _ => fun
  | [d] => { results := [.lit (.bool false)], args := [d] }
  | _ => none }
def FnPeriodWrongFalsely : Prop := fnPeriodRow.holds Try.pinned (OpenSpec.ofChange fnPeriodWrong)

/-- 'laws.FnShortest': WHATEVER THE INPUT: true; the input reads as it did. -/
def fnShortestSpec : ChangeSpec := { name := "fnShortest", fn := fun _ => fun
  | [d] => { results := [.lit (.bool true)], args := [d] }
  | _ => none }
def fnShortestRow : OpenClaim := { program := "ytmmonhagceacjaa", sum := "00a62ef0be92f3312965a9fc9169946f650ef56dfbbe3f5ef46727970d837bc0", func := "loop.example/spreadspectrum/laws.FnShortest", spec := "fnShortest", inPlace := ["internal/abi.NoEscape"], unfollowed := true, recurses := true, apart := false }
def FnShortestSaid : Prop := fnShortestRow.holds Try.pinned (OpenSpec.ofChange fnShortestSpec)

/-- ITS FALSE NEIGHBOUR: 'it returns false'. Refute it at one input. -/
def fnShortestWrong : ChangeSpec := { name := "fnShortest", fn := fun _ => fun
  | [d] => { results := [.lit (.bool false)], args := [d] }
  | _ => none }
def FnShortestWrongFalsely : Prop := fnShortestRow.holds Try.pinned (OpenSpec.ofChange fnShortestWrong)

/-- 'laws.FnPredict': WHATEVER THE INPUT: true; the input reads as it did. -/
def fnPredictSpec : ChangeSpec := { name := "fnPredict", fn := fun _ => fun
  | [d] => { results := [.lit (.bool true)], args := [d] }
  | _ => none }
def fnPredictRow : OpenClaim := { program := "ytmmonhagceacjaa", sum := "00a62ef0be92f3312965a9fc9169946f650ef56dfbbe3f5ef46727970d837bc0", func := "loop.example/spreadspectrum/laws.FnPredict", spec := "fnPredict", inPlace := ["internal/abi.NoEscape"], unfollowed := true, recurses := true, apart := false }
def FnPredictSaid : Prop := fnPredictRow.holds Try.pinned (OpenSpec.ofChange fnPredictSpec)

/-- ITS FALSE NEIGHBOUR: 'it returns false'. Refute it at one input. -/
def fnPredictWrong : ChangeSpec := { name := "fnPredict", fn := fun _ => fun
  | [d] => { results := [.lit (.bool false)], args := [d] }
  | _ => none }
def FnPredictWrongFalsely : Prop := fnPredictRow.holds Try.pinned (OpenSpec.ofChange fnPredictWrong)

/-- 'laws.FnReverseBits': WHATEVER THE INPUT: true; the input reads as it did. -/
def fnReverseBitsSpec : ChangeSpec := { name := "fnReverseBits", fn := fun _ => fun
  | [d1, d2] => { results := [.lit (.bool true)], args := [d1, d2] }
  | _ => none }
def fnReverseBitsRow : OpenClaim := { program := "ytmmonhagceacjaa", sum := "00a62ef0be92f3312965a9fc9169946f650ef56dfbbe3f5ef46727970d837bc0", func := "loop.example/spreadspectrum/laws.FnReverseBits", spec := "fnReverseBits", recurses := true, apart := false }
def FnReverseBitsSaid : Prop := fnReverseBitsRow.holds Try.pinned (OpenSpec.ofChange fnReverseBitsSpec)

/-- ITS FALSE NEIGHBOUR: 'it returns false'. Refute it at one input. -/
def fnReverseBitsWrong : ChangeSpec := { name := "fnReverseBits", fn := fun _ => fun
  | [d1, d2] => { results := [.lit (.bool false)], args := [d1, d2] }
  | _ => none }
def FnReverseBitsWrongFalsely : Prop := fnReverseBitsRow.holds Try.pinned (OpenSpec.ofChange fnReverseBitsWrong)

/-- 'laws.FnRuns': WHATEVER THE INPUT: true; the input reads as it did. -/
def fnRunsSpec : ChangeSpec := { name := "fnRuns", fn := fun _ => fun
  | [d] => { results := [.lit (.bool true)], args := [d] }
  | _ => none }
def fnRunsRow : OpenClaim := { program := "ytmmonhagceacjaa", sum := "00a62ef0be92f3312965a9fc9169946f650ef56dfbbe3f5ef46727970d837bc0", func := "loop.example/spreadspectrum/laws.FnRuns", spec := "fnRuns", recurses := true, apart := false }
def FnRunsSaid : Prop := fnRunsRow.holds Try.pinned (OpenSpec.ofChange fnRunsSpec)

/-- ITS FALSE NEIGHBOUR: 'it returns false'. Refute it at one input. -/
def fnRunsWrong : ChangeSpec := { name := "fnRuns", fn := fun _ => fun
  | [d] => { results := [.lit (.bool false)], args := [d] }
  | _ => none }
def FnRunsWrongFalsely : Prop := fnRunsRow.holds Try.pinned (OpenSpec.ofChange fnRunsWrong)

/-- 'laws.FnCrossValues': WHATEVER THE INPUT: true; the input reads as it did. -/
def fnCrossValuesSpec : ChangeSpec := { name := "fnCrossValues", fn := fun _ => fun
  | [d] => { results := [.lit (.bool true)], args := [d] }
  | _ => none }
def fnCrossValuesRow : OpenClaim := { program := "ytmmonhagceacjaa", sum := "00a62ef0be92f3312965a9fc9169946f650ef56dfbbe3f5ef46727970d837bc0", func := "loop.example/spreadspectrum/laws.FnCrossValues", spec := "fnCrossValues", recurses := true, apart := false }
def FnCrossValuesSaid : Prop := fnCrossValuesRow.holds Try.pinned (OpenSpec.ofChange fnCrossValuesSpec)

/-- ITS FALSE NEIGHBOUR: 'it returns false'. Refute it at one input. -/
def fnCrossValuesWrong : ChangeSpec := { name := "fnCrossValues", fn := fun _ => fun
  | [d] => { results := [.lit (.bool false)], args := [d] }
  | _ => none }
def FnCrossValuesWrongFalsely : Prop := fnCrossValuesRow.holds Try.pinned (OpenSpec.ofChange fnCrossValuesWrong)

/-- 'laws.FnExactAddRegisters': WHATEVER THE INPUT: true; the input reads as it did. -/
def fnExactAddRegistersSpec : ChangeSpec := { name := "fnExactAddRegisters", fn := fun _ => fun
  | [d1, d2] => { results := [.lit (.bool true)], args := [d1, d2] }
  | _ => none }
def fnExactAddRegistersRow : OpenClaim := { program := "ytmmonhagceacjaa", sum := "00a62ef0be92f3312965a9fc9169946f650ef56dfbbe3f5ef46727970d837bc0", func := "loop.example/spreadspectrum/laws.FnExactAddRegisters", spec := "fnExactAddRegisters", apart := false }
def FnExactAddRegistersSaid : Prop := fnExactAddRegistersRow.holds Try.pinned (OpenSpec.ofChange fnExactAddRegistersSpec)

/-- ITS FALSE NEIGHBOUR: 'it returns false'. Refute it at one input. -/
def fnExactAddRegistersWrong : ChangeSpec := { name := "fnExactAddRegisters", fn := fun _ => fun
  | [d1, d2] => { results := [.lit (.bool false)], args := [d1, d2] }
  | _ => none }
def FnExactAddRegistersWrongFalsely : Prop := fnExactAddRegistersRow.holds Try.pinned (OpenSpec.ofChange fnExactAddRegistersWrong)

/- THE SECOND FORM. 'bulk': how many values and letters a reading holds, each counted each time it is reached (what is shared counts as often as it is met; a slice's spare places count too). A statement '..UptoSaid' is the law's where the arguments, and the package variables that the reading takes, are together of bulk at most 1048576: NARROWER than '..Said'. Prove '..Said' where nothing that the law and all that it calls make is longer than what came in: it says more and counts as full. Else prove '..UptoSaid'. A law counts once. -/
mutual
def uptoBulk {H : Type} : DataW H → Nat
  | .lit (.string bytes) => bytes.length + 1
  | .lit _ => 1
  | .nil => 1
  | .ptr d => uptoBulk d + 1
  | .slice elems spare => uptoBulkAll elems + uptoBulkAll spare + 1
  | .agg parts => uptoBulkAll parts + 1
  | .iface _ d => uptoBulk d + 1
  | .map entries => uptoBulkEntries entries + 1
  | .held _ => 1
def uptoBulkAll {H : Type} : List (DataW H) → Nat
  | [] => 0
  | d :: r => uptoBulk d + uptoBulkAll r
def uptoBulkEntries {H : Type} : List (Lit × DataW H) → Nat
  | [] => 0
  | x :: r => uptoBulkEntry x + uptoBulkEntries r
def uptoBulkEntry {H : Type} : Lit × DataW H → Nat
  | (.string bytes, d) => bytes.length + uptoBulk d + 1
  | (_, d) => uptoBulk d + 1
 end
def uptoSmall : (H : Type) → List (DataW H) → Bool := fun _ ds => decide (uptoBulkAll ds ≤ 1048576)
def OpenSpec.upto (s : _root_.Go.ChangeSpec) : _root_.Go.OpenSpec := { _root_.Go.OpenSpec.ofChange s with cond := some uptoSmall }

/-- 'laws.FnStepBits', WHERE WHAT IT READS IS OF BULK AT MOST 1048576: true; the input reads as it did. -/
def fnStepBitsUptoRow : OpenClaim := { program := "ytmmonhagceacjaa", sum := "00a62ef0be92f3312965a9fc9169946f650ef56dfbbe3f5ef46727970d837bc0", func := "loop.example/spreadspectrum/laws.FnStepBits", spec := "fnStepBits", inPlace := ["internal/abi.NoEscape"], unfollowed := true, recurses := true, apart := false, narrowed := true }
def FnStepBitsUptoSaid : Prop := fnStepBitsUptoRow.holds Try.pinned (OpenSpec.upto fnStepBitsSpec)

/-- 'laws.FnRegisterFrom', WHERE WHAT IT READS IS OF BULK AT MOST 1048576: true; the input reads as it did. -/
def fnRegisterFromUptoRow : OpenClaim := { program := "ytmmonhagceacjaa", sum := "00a62ef0be92f3312965a9fc9169946f650ef56dfbbe3f5ef46727970d837bc0", func := "loop.example/spreadspectrum/laws.FnRegisterFrom", spec := "fnRegisterFrom", inPlace := ["internal/abi.NoEscape"], unfollowed := true, recurses := true, apart := false, narrowed := true }
def FnRegisterFromUptoSaid : Prop := fnRegisterFromUptoRow.holds Try.pinned (OpenSpec.upto fnRegisterFromSpec)

/-- 'laws.FnAddRegisters', WHERE WHAT IT READS IS OF BULK AT MOST 1048576: true; the input reads as it did. -/
def fnAddRegistersUptoRow : OpenClaim := { program := "ytmmonhagceacjaa", sum := "00a62ef0be92f3312965a9fc9169946f650ef56dfbbe3f5ef46727970d837bc0", func := "loop.example/spreadspectrum/laws.FnAddRegisters", spec := "fnAddRegisters", inPlace := ["internal/abi.NoEscape"], unfollowed := true, recurses := true, apart := false, narrowed := true }
def FnAddRegistersUptoSaid : Prop := fnAddRegistersUptoRow.holds Try.pinned (OpenSpec.upto fnAddRegistersSpec)

/-- 'laws.FnPeriod', WHERE WHAT IT READS IS OF BULK AT MOST 1048576: true; the input reads as it did. -/
def fnPeriodUptoRow : OpenClaim := { program := "ytmmonhagceacjaa", sum := "00a62ef0be92f3312965a9fc9169946f650ef56dfbbe3f5ef46727970d837bc0", func := "loop.example/spreadspectrum/laws.FnPeriod", spec := "fnPeriod", apart := false, narrowed := true }
def FnPeriodUptoSaid : Prop := fnPeriodUptoRow.holds Try.pinned (OpenSpec.upto fnPeriodSpec)

/-- 'laws.FnShortest', WHERE WHAT IT READS IS OF BULK AT MOST 1048576: true; the input reads as it did. -/
def fnShortestUptoRow : OpenClaim := { program := "ytmmonhagceacjaa", sum := "00a62ef0be92f3312965a9fc9169946f650ef56dfbbe3f5ef46727970d837bc0", func := "loop.example/spreadspectrum/laws.FnShortest", spec := "fnShortest", inPlace := ["internal/abi.NoEscape"], unfollowed := true, recurses := true, apart := false, narrowed := true }
def FnShortestUptoSaid : Prop := fnShortestUptoRow.holds Try.pinned (OpenSpec.upto fnShortestSpec)

/-- 'laws.FnPredict', WHERE WHAT IT READS IS OF BULK AT MOST 1048576: true; the input reads as it did. -/
def fnPredictUptoRow : OpenClaim := { program := "ytmmonhagceacjaa", sum := "00a62ef0be92f3312965a9fc9169946f650ef56dfbbe3f5ef46727970d837bc0", func := "loop.example/spreadspectrum/laws.FnPredict", spec := "fnPredict", inPlace := ["internal/abi.NoEscape"], unfollowed := true, recurses := true, apart := false, narrowed := true }
def FnPredictUptoSaid : Prop := fnPredictUptoRow.holds Try.pinned (OpenSpec.upto fnPredictSpec)

/-- 'laws.FnReverseBits', WHERE WHAT IT READS IS OF BULK AT MOST 1048576: true; the input reads as it did. -/
def fnReverseBitsUptoRow : OpenClaim := { program := "ytmmonhagceacjaa", sum := "00a62ef0be92f3312965a9fc9169946f650ef56dfbbe3f5ef46727970d837bc0", func := "loop.example/spreadspectrum/laws.FnReverseBits", spec := "fnReverseBits", recurses := true, apart := false, narrowed := true }
def FnReverseBitsUptoSaid : Prop := fnReverseBitsUptoRow.holds Try.pinned (OpenSpec.upto fnReverseBitsSpec)

/-- 'laws.FnRuns', WHERE WHAT IT READS IS OF BULK AT MOST 1048576: true; the input reads as it did. -/
def fnRunsUptoRow : OpenClaim := { program := "ytmmonhagceacjaa", sum := "00a62ef0be92f3312965a9fc9169946f650ef56dfbbe3f5ef46727970d837bc0", func := "loop.example/spreadspectrum/laws.FnRuns", spec := "fnRuns", recurses := true, apart := false, narrowed := true }
def FnRunsUptoSaid : Prop := fnRunsUptoRow.holds Try.pinned (OpenSpec.upto fnRunsSpec)

/-- 'laws.FnCrossValues', WHERE WHAT IT READS IS OF BULK AT MOST 1048576: true; the input reads as it did. -/
def fnCrossValuesUptoRow : OpenClaim := { program := "ytmmonhagceacjaa", sum := "00a62ef0be92f3312965a9fc9169946f650ef56dfbbe3f5ef46727970d837bc0", func := "loop.example/spreadspectrum/laws.FnCrossValues", spec := "fnCrossValues", recurses := true, apart := false, narrowed := true }
def FnCrossValuesUptoSaid : Prop := fnCrossValuesUptoRow.holds Try.pinned (OpenSpec.upto fnCrossValuesSpec)

/-- 'laws.FnExactAddRegisters', WHERE WHAT IT READS IS OF BULK AT MOST 1048576: true; the input reads as it did. -/
def fnExactAddRegistersUptoRow : OpenClaim := { program := "ytmmonhagceacjaa", sum := "00a62ef0be92f3312965a9fc9169946f650ef56dfbbe3f5ef46727970d837bc0", func := "loop.example/spreadspectrum/laws.FnExactAddRegisters", spec := "fnExactAddRegisters", apart := false, narrowed := true }
def FnExactAddRegistersUptoSaid : Prop := fnExactAddRegistersUptoRow.holds Try.pinned (OpenSpec.upto fnExactAddRegistersSpec)

end Rows
end Go.Proofs.Ytmmonhagceacjaa
