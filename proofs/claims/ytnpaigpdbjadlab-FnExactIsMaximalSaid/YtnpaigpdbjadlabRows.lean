/-
  No cell of these rows narrows 'for every input' (looked for: loops, veiled, ifaces, maps, wideKeys, modest, calm, conditions, laid).
  DERIVED. THE GIVEN ROWS OF THIS SEAT. 12 by the template 'for every input the law returns true; each argument reads behind the call as it read before'; 0 by the template 'total and deterministic' (their statements: YtnpaigpdbjadlabTotals.lean).
  GIVEN WITH THE SEED: the statements are not yours to turn. If you find one false, say at which input.
  Laid BY PROGRAM, IN A SANDBOX (cutbox-rows.mjs): the forced cells as the released guide's own fill.sh prints them over the translation 8131b64bdbd73d62… (all of the seat's roots in one cut). By AI agents, Wed Nov 11 2026. No macro, syntax, notation, axiom, sorry.
-/
import Derived.Test.YtnpaigpdbjadlabChecked
import GoSem.Claim
import GoSem.ClaimJoined
import GoSem.ClaimMapViews
import Derived.JoinedTies
import Derived.KernelRfl
namespace Go.Proofs.Ytnpaigpdbjadlab
/- THE CELL 'sum', in the pinned program and in every row, IS THE sha256 OF THE DUMP (.gsa) THAT YtnpaigpdbjadlabProg.lean LOADS. Nothing in Lean hashes anything: it is a label: what it is worth is what the hold of that sum in a sandbox is worth. -/
noncomputable def Try.pinned : Pinned := { name := "ytnpaigpdbjadlab", sum := "8131b64bdbd73d62c963566533b96871d1a27b7c7be006b46639a1cbdb759860", checked := Try.checked }
namespace Rows
def none {H : Type} : Left H := { results := [], args := [] }

/-- 'laws.FnExactPeriodOf': WHATEVER THE INPUT: true; the input reads as it did. -/
def fnExactPeriodOfSpec : ChangeSpec := { name := "fnExactPeriodOf", fn := fun _ => fun
  | [d] => { results := [.lit (.bool true)], args := [d] }
  | _ => none }
def fnExactPeriodOfRow : OpenClaim := { program := "ytnpaigpdbjadlab", sum := "8131b64bdbd73d62c963566533b96871d1a27b7c7be006b46639a1cbdb759860", func := "loop.example/spreadspectrum/laws.FnExactPeriodOf", spec := "fnExactPeriodOf", apart := false }
def FnExactPeriodOfSaid : Prop := fnExactPeriodOfRow.holds Try.pinned (OpenSpec.ofChange fnExactPeriodOfSpec)

/-- ITS FALSE NEIGHBOUR: 'it returns false'. Refute it at one input. -/
def fnExactPeriodOfWrong : ChangeSpec := { name := "fnExactPeriodOf", fn := fun _ => fun
  | [d] => { results := [.lit (.bool false)], args := [d] }
  | _ => none }
def FnExactPeriodOfWrongFalsely : Prop := fnExactPeriodOfRow.holds Try.pinned (OpenSpec.ofChange fnExactPeriodOfWrong)

/-- 'laws.FnExactLeadOf': WHATEVER THE INPUT: true; the input reads as it did. -/
def fnExactLeadOfSpec : ChangeSpec := { name := "fnExactLeadOf", fn := fun _ => fun
  | [d] => { results := [.lit (.bool true)], args := [d] }
  | _ => none }
def fnExactLeadOfRow : OpenClaim := { program := "ytnpaigpdbjadlab", sum := "8131b64bdbd73d62c963566533b96871d1a27b7c7be006b46639a1cbdb759860", func := "loop.example/spreadspectrum/laws.FnExactLeadOf", spec := "fnExactLeadOf", apart := false }
def FnExactLeadOfSaid : Prop := fnExactLeadOfRow.holds Try.pinned (OpenSpec.ofChange fnExactLeadOfSpec)

/-- ITS FALSE NEIGHBOUR: 'it returns false'. Refute it at one input. -/
def fnExactLeadOfWrong : ChangeSpec := { name := "fnExactLeadOf", fn := fun _ => fun
  | [d] => { results := [.lit (.bool false)], args := [d] }
  | _ => none }
def FnExactLeadOfWrongFalsely : Prop := fnExactLeadOfRow.holds Try.pinned (OpenSpec.ofChange fnExactLeadOfWrong)

/-- 'laws.FnExactCycleLengths': WHATEVER THE INPUT: true; the input reads as it did. -/
def fnExactCycleLengthsSpec : ChangeSpec := { name := "fnExactCycleLengths", fn := fun _ => fun
  | [d1, d2] => { results := [.lit (.bool true)], args := [d1, d2] }
  | _ => none }
def fnExactCycleLengthsRow : OpenClaim := { program := "ytnpaigpdbjadlab", sum := "8131b64bdbd73d62c963566533b96871d1a27b7c7be006b46639a1cbdb759860", func := "loop.example/spreadspectrum/laws.FnExactCycleLengths", spec := "fnExactCycleLengths", recurses := true, apart := false }
def FnExactCycleLengthsSaid : Prop := fnExactCycleLengthsRow.holds Try.pinned (OpenSpec.ofChange fnExactCycleLengthsSpec)

/-- ITS FALSE NEIGHBOUR: 'it returns false'. Refute it at one input. -/
def fnExactCycleLengthsWrong : ChangeSpec := { name := "fnExactCycleLengths", fn := fun _ => fun
  | [d1, d2] => { results := [.lit (.bool false)], args := [d1, d2] }
  | _ => none }
def FnExactCycleLengthsWrongFalsely : Prop := fnExactCycleLengthsRow.holds Try.pinned (OpenSpec.ofChange fnExactCycleLengthsWrong)

/-- 'laws.FnExactIsMaximal': WHATEVER THE INPUT: true; the input reads as it did. -/
def fnExactIsMaximalSpec : ChangeSpec := { name := "fnExactIsMaximal", fn := fun _ => fun
  | [d1, d2] => { results := [.lit (.bool true)], args := [d1, d2] }
  | _ => none }
def fnExactIsMaximalRow : OpenClaim := { program := "ytnpaigpdbjadlab", sum := "8131b64bdbd73d62c963566533b96871d1a27b7c7be006b46639a1cbdb759860", func := "loop.example/spreadspectrum/laws.FnExactIsMaximal", spec := "fnExactIsMaximal", apart := false }
def FnExactIsMaximalSaid : Prop := fnExactIsMaximalRow.holds Try.pinned (OpenSpec.ofChange fnExactIsMaximalSpec)

/-- ITS FALSE NEIGHBOUR: 'it returns false'. Refute it at one input. -/
def fnExactIsMaximalWrong : ChangeSpec := { name := "fnExactIsMaximal", fn := fun _ => fun
  | [d1, d2] => { results := [.lit (.bool false)], args := [d1, d2] }
  | _ => none }
def FnExactIsMaximalWrongFalsely : Prop := fnExactIsMaximalRow.holds Try.pinned (OpenSpec.ofChange fnExactIsMaximalWrong)

/-- 'laws.FnExactMaximalTaps': WHATEVER THE INPUT: true; the input reads as it did. -/
def fnExactMaximalTapsSpec : ChangeSpec := { name := "fnExactMaximalTaps", fn := fun _ => fun
  | [d] => { results := [.lit (.bool true)], args := [d] }
  | _ => none }
def fnExactMaximalTapsRow : OpenClaim := { program := "ytnpaigpdbjadlab", sum := "8131b64bdbd73d62c963566533b96871d1a27b7c7be006b46639a1cbdb759860", func := "loop.example/spreadspectrum/laws.FnExactMaximalTaps", spec := "fnExactMaximalTaps", apart := false }
def FnExactMaximalTapsSaid : Prop := fnExactMaximalTapsRow.holds Try.pinned (OpenSpec.ofChange fnExactMaximalTapsSpec)

/-- ITS FALSE NEIGHBOUR: 'it returns false'. Refute it at one input. -/
def fnExactMaximalTapsWrong : ChangeSpec := { name := "fnExactMaximalTaps", fn := fun _ => fun
  | [d] => { results := [.lit (.bool false)], args := [d] }
  | _ => none }
def FnExactMaximalTapsWrongFalsely : Prop := fnExactMaximalTapsRow.holds Try.pinned (OpenSpec.ofChange fnExactMaximalTapsWrong)

/-- 'laws.FnExactShortestRegister': WHATEVER THE INPUT: true; the input reads as it did. -/
def fnExactShortestRegisterSpec : ChangeSpec := { name := "fnExactShortestRegister", fn := fun _ => fun
  | [d] => { results := [.lit (.bool true)], args := [d] }
  | _ => none }
def fnExactShortestRegisterRow : OpenClaim := { program := "ytnpaigpdbjadlab", sum := "8131b64bdbd73d62c963566533b96871d1a27b7c7be006b46639a1cbdb759860", func := "loop.example/spreadspectrum/laws.FnExactShortestRegister", spec := "fnExactShortestRegister", unfollowed := true, recurses := true, apart := false }
def FnExactShortestRegisterSaid : Prop := fnExactShortestRegisterRow.holds Try.pinned (OpenSpec.ofChange fnExactShortestRegisterSpec)

/-- ITS FALSE NEIGHBOUR: 'it returns false'. Refute it at one input. -/
def fnExactShortestRegisterWrong : ChangeSpec := { name := "fnExactShortestRegister", fn := fun _ => fun
  | [d] => { results := [.lit (.bool false)], args := [d] }
  | _ => none }
def FnExactShortestRegisterWrongFalsely : Prop := fnExactShortestRegisterRow.holds Try.pinned (OpenSpec.ofChange fnExactShortestRegisterWrong)

/-- 'laws.FnPeriod': WHATEVER THE INPUT: true; the input reads as it did. -/
def fnPeriodSpec : ChangeSpec := { name := "fnPeriod", fn := fun _ => fun
  | [d] => { results := [.lit (.bool true)], args := [d] }
  | _ => none }
def fnPeriodRow : OpenClaim := { program := "ytnpaigpdbjadlab", sum := "8131b64bdbd73d62c963566533b96871d1a27b7c7be006b46639a1cbdb759860", func := "loop.example/spreadspectrum/laws.FnPeriod", spec := "fnPeriod", apart := false }
def FnPeriodSaid : Prop := fnPeriodRow.holds Try.pinned (OpenSpec.ofChange fnPeriodSpec)

/-- ITS FALSE NEIGHBOUR: 'it returns false'. Refute it at one input. -/
def fnPeriodWrong : ChangeSpec := { name := "fnPeriod", fn := fun _ => fun
  | [d] => { results := [.lit (.bool false)], args := [d] }
  | _ => none }
def FnPeriodWrongFalsely : Prop := fnPeriodRow.holds Try.pinned (OpenSpec.ofChange fnPeriodWrong)

/-- 'laws.FnCycles': WHATEVER THE INPUT: true; the input reads as it did. -/
def fnCyclesSpec : ChangeSpec := { name := "fnCycles", fn := fun _ => fun
  | [d] => { results := [.lit (.bool true)], args := [d] }
  | _ => none }
def fnCyclesRow : OpenClaim := { program := "ytnpaigpdbjadlab", sum := "8131b64bdbd73d62c963566533b96871d1a27b7c7be006b46639a1cbdb759860", func := "loop.example/spreadspectrum/laws.FnCycles", spec := "fnCycles", recurses := true, apart := false }
def FnCyclesSaid : Prop := fnCyclesRow.holds Try.pinned (OpenSpec.ofChange fnCyclesSpec)

/-- ITS FALSE NEIGHBOUR: 'it returns false'. Refute it at one input. -/
def fnCyclesWrong : ChangeSpec := { name := "fnCycles", fn := fun _ => fun
  | [d] => { results := [.lit (.bool false)], args := [d] }
  | _ => none }
def FnCyclesWrongFalsely : Prop := fnCyclesRow.holds Try.pinned (OpenSpec.ofChange fnCyclesWrong)

/-- 'laws.FnMaximal': WHATEVER THE INPUT: true; the input reads as it did. -/
def fnMaximalSpec : ChangeSpec := { name := "fnMaximal", fn := fun _ => fun
  | [d] => { results := [.lit (.bool true)], args := [d] }
  | _ => none }
def fnMaximalRow : OpenClaim := { program := "ytnpaigpdbjadlab", sum := "8131b64bdbd73d62c963566533b96871d1a27b7c7be006b46639a1cbdb759860", func := "loop.example/spreadspectrum/laws.FnMaximal", spec := "fnMaximal", recurses := true, apart := false }
def FnMaximalSaid : Prop := fnMaximalRow.holds Try.pinned (OpenSpec.ofChange fnMaximalSpec)

/-- ITS FALSE NEIGHBOUR: 'it returns false'. Refute it at one input. -/
def fnMaximalWrong : ChangeSpec := { name := "fnMaximal", fn := fun _ => fun
  | [d] => { results := [.lit (.bool false)], args := [d] }
  | _ => none }
def FnMaximalWrongFalsely : Prop := fnMaximalRow.holds Try.pinned (OpenSpec.ofChange fnMaximalWrong)

/-- 'laws.FnMaximalBits': WHATEVER THE INPUT: true; the input reads as it did. -/
def fnMaximalBitsSpec : ChangeSpec := { name := "fnMaximalBits", fn := fun _ => fun
  | [d1, d2] => { results := [.lit (.bool true)], args := [d1, d2] }
  | _ => none }
def fnMaximalBitsRow : OpenClaim := { program := "ytnpaigpdbjadlab", sum := "8131b64bdbd73d62c963566533b96871d1a27b7c7be006b46639a1cbdb759860", func := "loop.example/spreadspectrum/laws.FnMaximalBits", spec := "fnMaximalBits", inPlace := ["internal/abi.NoEscape"], unfollowed := true, recurses := true, apart := false }
def FnMaximalBitsSaid : Prop := fnMaximalBitsRow.holds Try.pinned (OpenSpec.ofChange fnMaximalBitsSpec)

/-- ITS FALSE NEIGHBOUR: 'it returns false'. Refute it at one input. -/
def fnMaximalBitsWrong : ChangeSpec := { name := "fnMaximalBits", fn := fun _ => fun
  | [d1, d2] => { results := [.lit (.bool false)], args := [d1, d2] }
  | _ => none }
def FnMaximalBitsWrongFalsely : Prop := fnMaximalBitsRow.holds Try.pinned (OpenSpec.ofChange fnMaximalBitsWrong)

/-- 'laws.FnShortest': WHATEVER THE INPUT: true; the input reads as it did. -/
def fnShortestSpec : ChangeSpec := { name := "fnShortest", fn := fun _ => fun
  | [d] => { results := [.lit (.bool true)], args := [d] }
  | _ => none }
def fnShortestRow : OpenClaim := { program := "ytnpaigpdbjadlab", sum := "8131b64bdbd73d62c963566533b96871d1a27b7c7be006b46639a1cbdb759860", func := "loop.example/spreadspectrum/laws.FnShortest", spec := "fnShortest", inPlace := ["internal/abi.NoEscape"], unfollowed := true, recurses := true, apart := false }
def FnShortestSaid : Prop := fnShortestRow.holds Try.pinned (OpenSpec.ofChange fnShortestSpec)

/-- ITS FALSE NEIGHBOUR: 'it returns false'. Refute it at one input. -/
def fnShortestWrong : ChangeSpec := { name := "fnShortest", fn := fun _ => fun
  | [d] => { results := [.lit (.bool false)], args := [d] }
  | _ => none }
def FnShortestWrongFalsely : Prop := fnShortestRow.holds Try.pinned (OpenSpec.ofChange fnShortestWrong)

/-- 'laws.FnPredict': WHATEVER THE INPUT: true; the input reads as it did. -/
def fnPredictSpec : ChangeSpec := { name := "fnPredict", fn := fun _ => fun
  | [d] => { results := [.lit (.bool true)], args := [d] }
  | _ => none }
def fnPredictRow : OpenClaim := { program := "ytnpaigpdbjadlab", sum := "8131b64bdbd73d62c963566533b96871d1a27b7c7be006b46639a1cbdb759860", func := "loop.example/spreadspectrum/laws.FnPredict", spec := "fnPredict", inPlace := ["internal/abi.NoEscape"], unfollowed := true, recurses := true, apart := false }
def FnPredictSaid : Prop := fnPredictRow.holds Try.pinned (OpenSpec.ofChange fnPredictSpec)

/-- ITS FALSE NEIGHBOUR: 'it returns false'. Refute it at one input. -/
def fnPredictWrong : ChangeSpec := { name := "fnPredict", fn := fun _ => fun
  | [d] => { results := [.lit (.bool false)], args := [d] }
  | _ => none }
def FnPredictWrongFalsely : Prop := fnPredictRow.holds Try.pinned (OpenSpec.ofChange fnPredictWrong)

/- THE SECOND FORM. 'bulk': how many values and letters a reading holds, each counted each time it is reached (what is shared counts as often as it is met; a slice's spare places count too). A statement '..UptoSaid' is the law's where the arguments, and the package variables that the reading takes, are together of bulk at most 1048576: NARROWER than '..Said'. Prove '..Said' where nothing that the law and all that it calls make is longer than what came in: it says more and counts as full. Else prove '..UptoSaid'. A law counts once. -/
mutual
def uptoBulk {H : Type} : DataW H → Nat
  | .lit (.string bytes) => bytes.length + 1
  | .lit _ => 1
  | .nil => 1
  | .ptr d => uptoBulk d + 1
  | .slice elems spare => uptoBulkAll elems + uptoBulkAll spare + 1
  | .agg parts => uptoBulkAll parts + 1
  | .iface _ d => uptoBulk d + 1
  | .map entries => uptoBulkEntries entries + 1
  | .held _ => 1
def uptoBulkAll {H : Type} : List (DataW H) → Nat
  | [] => 0
  | d :: r => uptoBulk d + uptoBulkAll r
def uptoBulkEntries {H : Type} : List (Lit × DataW H) → Nat
  | [] => 0
  | x :: r => uptoBulkEntry x + uptoBulkEntries r
def uptoBulkEntry {H : Type} : Lit × DataW H → Nat
  | (.string bytes, d) => bytes.length + uptoBulk d + 1
  | (_, d) => uptoBulk d + 1
 end
def uptoSmall : (H : Type) → List (DataW H) → Bool := fun _ ds => decide (uptoBulkAll ds ≤ 1048576)
def OpenSpec.upto (s : _root_.Go.ChangeSpec) : _root_.Go.OpenSpec := { _root_.Go.OpenSpec.ofChange s with cond := some uptoSmall }

/-- 'laws.FnExactPeriodOf', WHERE WHAT IT READS IS OF BULK AT MOST 1048576: true; the input reads as it did. -/
def fnExactPeriodOfUptoRow : OpenClaim := { program := "ytnpaigpdbjadlab", sum := "8131b64bdbd73d62c963566533b96871d1a27b7c7be006b46639a1cbdb759860", func := "loop.example/spreadspectrum/laws.FnExactPeriodOf", spec := "fnExactPeriodOf", apart := false, narrowed := true }
def FnExactPeriodOfUptoSaid : Prop := fnExactPeriodOfUptoRow.holds Try.pinned (OpenSpec.upto fnExactPeriodOfSpec)

/-- 'laws.FnExactLeadOf', WHERE WHAT IT READS IS OF BULK AT MOST 1048576: true; the input reads as it did. -/
def fnExactLeadOfUptoRow : OpenClaim := { program := "ytnpaigpdbjadlab", sum := "8131b64bdbd73d62c963566533b96871d1a27b7c7be006b46639a1cbdb759860", func := "loop.example/spreadspectrum/laws.FnExactLeadOf", spec := "fnExactLeadOf", apart := false, narrowed := true }
def FnExactLeadOfUptoSaid : Prop := fnExactLeadOfUptoRow.holds Try.pinned (OpenSpec.upto fnExactLeadOfSpec)

/-- 'laws.FnExactCycleLengths', WHERE WHAT IT READS IS OF BULK AT MOST 1048576: true; the input reads as it did. -/
def fnExactCycleLengthsUptoRow : OpenClaim := { program := "ytnpaigpdbjadlab", sum := "8131b64bdbd73d62c963566533b96871d1a27b7c7be006b46639a1cbdb759860", func := "loop.example/spreadspectrum/laws.FnExactCycleLengths", spec := "fnExactCycleLengths", recurses := true, apart := false, narrowed := true }
def FnExactCycleLengthsUptoSaid : Prop := fnExactCycleLengthsUptoRow.holds Try.pinned (OpenSpec.upto fnExactCycleLengthsSpec)

/-- 'laws.FnExactIsMaximal', WHERE WHAT IT READS IS OF BULK AT MOST 1048576: true; the input reads as it did. -/
def fnExactIsMaximalUptoRow : OpenClaim := { program := "ytnpaigpdbjadlab", sum := "8131b64bdbd73d62c963566533b96871d1a27b7c7be006b46639a1cbdb759860", func := "loop.example/spreadspectrum/laws.FnExactIsMaximal", spec := "fnExactIsMaximal", apart := false, narrowed := true }
def FnExactIsMaximalUptoSaid : Prop := fnExactIsMaximalUptoRow.holds Try.pinned (OpenSpec.upto fnExactIsMaximalSpec)

/-- 'laws.FnExactMaximalTaps', WHERE WHAT IT READS IS OF BULK AT MOST 1048576: true; the input reads as it did. -/
def fnExactMaximalTapsUptoRow : OpenClaim := { program := "ytnpaigpdbjadlab", sum := "8131b64bdbd73d62c963566533b96871d1a27b7c7be006b46639a1cbdb759860", func := "loop.example/spreadspectrum/laws.FnExactMaximalTaps", spec := "fnExactMaximalTaps", apart := false, narrowed := true }
def FnExactMaximalTapsUptoSaid : Prop := fnExactMaximalTapsUptoRow.holds Try.pinned (OpenSpec.upto fnExactMaximalTapsSpec)

/-- 'laws.FnExactShortestRegister', WHERE WHAT IT READS IS OF BULK AT MOST 1048576: true; the input reads as it did. -/
def fnExactShortestRegisterUptoRow : OpenClaim := { program := "ytnpaigpdbjadlab", sum := "8131b64bdbd73d62c963566533b96871d1a27b7c7be006b46639a1cbdb759860", func := "loop.example/spreadspectrum/laws.FnExactShortestRegister", spec := "fnExactShortestRegister", unfollowed := true, recurses := true, apart := false, narrowed := true }
def FnExactShortestRegisterUptoSaid : Prop := fnExactShortestRegisterUptoRow.holds Try.pinned (OpenSpec.upto fnExactShortestRegisterSpec)

/-- 'laws.FnPeriod', WHERE WHAT IT READS IS OF BULK AT MOST 1048576: true; the input reads as it did. -/
def fnPeriodUptoRow : OpenClaim := { program := "ytnpaigpdbjadlab", sum := "8131b64bdbd73d62c963566533b96871d1a27b7c7be006b46639a1cbdb759860", func := "loop.example/spreadspectrum/laws.FnPeriod", spec := "fnPeriod", apart := false, narrowed := true }
def FnPeriodUptoSaid : Prop := fnPeriodUptoRow.holds Try.pinned (OpenSpec.upto fnPeriodSpec)

/-- 'laws.FnCycles', WHERE WHAT IT READS IS OF BULK AT MOST 1048576: true; the input reads as it did. -/
def fnCyclesUptoRow : OpenClaim := { program := "ytnpaigpdbjadlab", sum := "8131b64bdbd73d62c963566533b96871d1a27b7c7be006b46639a1cbdb759860", func := "loop.example/spreadspectrum/laws.FnCycles", spec := "fnCycles", recurses := true, apart := false, narrowed := true }
def FnCyclesUptoSaid : Prop := fnCyclesUptoRow.holds Try.pinned (OpenSpec.upto fnCyclesSpec)

/-- 'laws.FnMaximal', WHERE WHAT IT READS IS OF BULK AT MOST 1048576: true; the input reads as it did. -/
def fnMaximalUptoRow : OpenClaim := { program := "ytnpaigpdbjadlab", sum := "8131b64bdbd73d62c963566533b96871d1a27b7c7be006b46639a1cbdb759860", func := "loop.example/spreadspectrum/laws.FnMaximal", spec := "fnMaximal", recurses := true, apart := false, narrowed := true }
def FnMaximalUptoSaid : Prop := fnMaximalUptoRow.holds Try.pinned (OpenSpec.upto fnMaximalSpec)

/-- 'laws.FnMaximalBits', WHERE WHAT IT READS IS OF BULK AT MOST 1048576: true; the input reads as it did. -/
def fnMaximalBitsUptoRow : OpenClaim := { program := "ytnpaigpdbjadlab", sum := "8131b64bdbd73d62c963566533b96871d1a27b7c7be006b46639a1cbdb759860", func := "loop.example/spreadspectrum/laws.FnMaximalBits", spec := "fnMaximalBits", inPlace := ["internal/abi.NoEscape"], unfollowed := true, recurses := true, apart := false, narrowed := true }
def FnMaximalBitsUptoSaid : Prop := fnMaximalBitsUptoRow.holds Try.pinned (OpenSpec.upto fnMaximalBitsSpec)

/-- 'laws.FnShortest', WHERE WHAT IT READS IS OF BULK AT MOST 1048576: true; the input reads as it did. -/
def fnShortestUptoRow : OpenClaim := { program := "ytnpaigpdbjadlab", sum := "8131b64bdbd73d62c963566533b96871d1a27b7c7be006b46639a1cbdb759860", func := "loop.example/spreadspectrum/laws.FnShortest", spec := "fnShortest", inPlace := ["internal/abi.NoEscape"], unfollowed := true, recurses := true, apart := false, narrowed := true }
def FnShortestUptoSaid : Prop := fnShortestUptoRow.holds Try.pinned (OpenSpec.upto fnShortestSpec)

/-- 'laws.FnPredict', WHERE WHAT IT READS IS OF BULK AT MOST 1048576: true; the input reads as it did. -/
def fnPredictUptoRow : OpenClaim := { program := "ytnpaigpdbjadlab", sum := "8131b64bdbd73d62c963566533b96871d1a27b7c7be006b46639a1cbdb759860", func := "loop.example/spreadspectrum/laws.FnPredict", spec := "fnPredict", inPlace := ["internal/abi.NoEscape"], unfollowed := true, recurses := true, apart := false, narrowed := true }
def FnPredictUptoSaid : Prop := fnPredictUptoRow.holds Try.pinned (OpenSpec.upto fnPredictSpec)

end Rows
end Go.Proofs.Ytnpaigpdbjadlab
