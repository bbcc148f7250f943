/-
  No cell of these rows narrows 'for every input' (looked for: loops, veiled, ifaces, maps, wideKeys, modest, calm, conditions, laid).
  DERIVED. THE GIVEN ROWS OF THIS SEAT. 6 by the template 'for every input the law returns true; each argument reads behind the call as it read before'; 0 by the template 'total and deterministic' (their statements: YtjeadndajndmhaaTotals.lean).
  GIVEN WITH THE SEED: the statements are not yours to turn. If you find one false, say at which input.
  Laid BY PROGRAM, IN A SANDBOX (cutbox-rows.mjs): the forced cells as the released guide's own fill.sh prints them over the translation d10b40789f9c98c7… (all of the seat's roots in one cut). By AI agents, Wed Nov 11 2026. No macro, syntax, notation, axiom, sorry.
-/
import Derived.Test.YtjeadndajndmhaaChecked
import GoSem.Claim
import GoSem.ClaimJoined
import GoSem.ClaimMapViews
import Derived.JoinedTies
import Derived.KernelRfl
namespace Go.Proofs.Ytjeadndajndmhaa
/- THE CELL 'sum', in the pinned program and in every row, IS THE sha256 OF THE DUMP (.gsa) THAT YtjeadndajndmhaaProg.lean LOADS. Nothing in Lean hashes anything: it is a label: what it is worth is what the hold of that sum in a sandbox is worth. -/
noncomputable def Try.pinned : Pinned := { name := "ytjeadndajndmhaa", sum := "d10b40789f9c98c75ed83423bd46b80582e3950cb154ee2de58e4c541d54bf9c", checked := Try.checked }
namespace Rows
def none {H : Type} : Left H := { results := [], args := [] }

/-- 'laws.FnLeastPeriod': WHATEVER THE INPUT: true; the input reads as it did. -/
def fnLeastPeriodSpec : ChangeSpec := { name := "fnLeastPeriod", fn := fun _ => fun
  | [d] => { results := [.lit (.bool true)], args := [d] }
  | _ => none }
def fnLeastPeriodRow : OpenClaim := { program := "ytjeadndajndmhaa", sum := "d10b40789f9c98c75ed83423bd46b80582e3950cb154ee2de58e4c541d54bf9c", func := "loop.example/spreadspectrum/laws.FnLeastPeriod", spec := "fnLeastPeriod", apart := false }
def FnLeastPeriodSaid : Prop := fnLeastPeriodRow.holds Try.pinned (OpenSpec.ofChange fnLeastPeriodSpec)

/-- ITS FALSE NEIGHBOUR: 'it returns false'. Refute it at one input. -/
def fnLeastPeriodWrong : ChangeSpec := { name := "fnLeastPeriod", fn := fun _ => fun
  | [d] => { results := [.lit (.bool false)], args := [d] }
  | _ => none }
def FnLeastPeriodWrongFalsely : Prop := fnLeastPeriodRow.holds Try.pinned (OpenSpec.ofChange fnLeastPeriodWrong)

/-- 'laws.FnRotation': WHATEVER THE INPUT: true; the input reads as it did. -/
def fnRotationSpec : ChangeSpec := { name := "fnRotation", fn := fun _ => fun
  | [d1, d2] => { results := [.lit (.bool true)], args := [d1, d2] }
  | _ => none }
def fnRotationRow : OpenClaim := { program := "ytjeadndajndmhaa", sum := "d10b40789f9c98c75ed83423bd46b80582e3950cb154ee2de58e4c541d54bf9c", func := "loop.example/spreadspectrum/laws.FnRotation", spec := "fnRotation", apart := false }
def FnRotationSaid : Prop := fnRotationRow.holds Try.pinned (OpenSpec.ofChange fnRotationSpec)

/-- ITS FALSE NEIGHBOUR: 'it returns false'. Refute it at one input. -/
def fnRotationWrong : ChangeSpec := { name := "fnRotation", fn := fun _ => fun
  | [d1, d2] => { results := [.lit (.bool false)], args := [d1, d2] }
  | _ => none }
def FnRotationWrongFalsely : Prop := fnRotationRow.holds Try.pinned (OpenSpec.ofChange fnRotationWrong)

/-- 'laws.FnShiftBetween': WHATEVER THE INPUT: true; the input reads as it did. -/
def fnShiftBetweenSpec : ChangeSpec := { name := "fnShiftBetween", fn := fun _ => fun
  | [d] => { results := [.lit (.bool true)], args := [d] }
  | _ => none }
def fnShiftBetweenRow : OpenClaim := { program := "ytjeadndajndmhaa", sum := "d10b40789f9c98c75ed83423bd46b80582e3950cb154ee2de58e4c541d54bf9c", func := "loop.example/spreadspectrum/laws.FnShiftBetween", spec := "fnShiftBetween", recurses := true, apart := false }
def FnShiftBetweenSaid : Prop := fnShiftBetweenRow.holds Try.pinned (OpenSpec.ofChange fnShiftBetweenSpec)

/-- ITS FALSE NEIGHBOUR: 'it returns false'. Refute it at one input. -/
def fnShiftBetweenWrong : ChangeSpec := { name := "fnShiftBetween", fn := fun _ => fun
  | [d] => { results := [.lit (.bool false)], args := [d] }
  | _ => none }
def FnShiftBetweenWrongFalsely : Prop := fnShiftBetweenRow.holds Try.pinned (OpenSpec.ofChange fnShiftBetweenWrong)

/-- 'laws.FnPeak': WHATEVER THE INPUT: true; the input reads as it did. -/
def fnPeakSpec : ChangeSpec := { name := "fnPeak", fn := fun _ => fun
  | [d1, d2] => { results := [.lit (.bool true)], args := [d1, d2] }
  | _ => none }
def fnPeakRow : OpenClaim := { program := "ytjeadndajndmhaa", sum := "d10b40789f9c98c75ed83423bd46b80582e3950cb154ee2de58e4c541d54bf9c", func := "loop.example/spreadspectrum/laws.FnPeak", spec := "fnPeak", recurses := true, apart := false }
def FnPeakSaid : Prop := fnPeakRow.holds Try.pinned (OpenSpec.ofChange fnPeakSpec)

/-- ITS FALSE NEIGHBOUR: 'it returns false'. Refute it at one input. -/
def fnPeakWrong : ChangeSpec := { name := "fnPeak", fn := fun _ => fun
  | [d1, d2] => { results := [.lit (.bool false)], args := [d1, d2] }
  | _ => none }
def FnPeakWrongFalsely : Prop := fnPeakRow.holds Try.pinned (OpenSpec.ofChange fnPeakWrong)

/-- 'laws.FnCrossTable': WHATEVER THE INPUT: true; the input reads as it did. -/
def fnCrossTableSpec : ChangeSpec := { name := "fnCrossTable", fn := fun _ => fun
  | [d] => { results := [.lit (.bool true)], args := [d] }
  | _ => none }
def fnCrossTableRow : OpenClaim := { program := "ytjeadndajndmhaa", sum := "d10b40789f9c98c75ed83423bd46b80582e3950cb154ee2de58e4c541d54bf9c", func := "loop.example/spreadspectrum/laws.FnCrossTable", spec := "fnCrossTable", recurses := true, apart := false }
def FnCrossTableSaid : Prop := fnCrossTableRow.holds Try.pinned (OpenSpec.ofChange fnCrossTableSpec)

/-- ITS FALSE NEIGHBOUR: 'it returns false'. Refute it at one input. -/
def fnCrossTableWrong : ChangeSpec := { name := "fnCrossTable", fn := fun _ => fun
  | [d] => { results := [.lit (.bool false)], args := [d] }
  | _ => none }
def FnCrossTableWrongFalsely : Prop := fnCrossTableRow.holds Try.pinned (OpenSpec.ofChange fnCrossTableWrong)

/-- 'laws.FnExactMaximalTaps': WHATEVER THE INPUT: true; the input reads as it did. -/
def fnExactMaximalTapsSpec : ChangeSpec := { name := "fnExactMaximalTaps", fn := fun _ => fun
  | [d] => { results := [.lit (.bool true)], args := [d] }
  | _ => none }
def fnExactMaximalTapsRow : OpenClaim := { program := "ytjeadndajndmhaa", sum := "d10b40789f9c98c75ed83423bd46b80582e3950cb154ee2de58e4c541d54bf9c", func := "loop.example/spreadspectrum/laws.FnExactMaximalTaps", spec := "fnExactMaximalTaps", apart := false }
def FnExactMaximalTapsSaid : Prop := fnExactMaximalTapsRow.holds Try.pinned (OpenSpec.ofChange fnExactMaximalTapsSpec)

/-- ITS FALSE NEIGHBOUR: 'it returns false'. Refute it at one input. -/
def fnExactMaximalTapsWrong : ChangeSpec := { name := "fnExactMaximalTaps", fn := fun _ => fun
  | [d] => { results := [.lit (.bool false)], args := [d] }
  | _ => none }
def FnExactMaximalTapsWrongFalsely : Prop := fnExactMaximalTapsRow.holds Try.pinned (OpenSpec.ofChange fnExactMaximalTapsWrong)

/- THE SECOND FORM. 'bulk': how many values and letters a reading holds, each counted each time it is reached (what is shared counts as often as it is met; a slice's spare places count too). A statement '..UptoSaid' is the law's where the arguments, and the package variables that the reading takes, are together of bulk at most 1048576: NARROWER than '..Said'. Prove '..Said' where nothing that the law and all that it calls make is longer than what came in: it says more and counts as full. Else prove '..UptoSaid'. A law counts once. -/
mutual
def uptoBulk {H : Type} : DataW H → Nat
  | .lit (.string bytes) => bytes.length + 1
  | .lit _ => 1
  | .nil => 1
  | .ptr d => uptoBulk d + 1
  | .slice elems spare => uptoBulkAll elems + uptoBulkAll spare + 1
  | .agg parts => uptoBulkAll parts + 1
  | .iface _ d => uptoBulk d + 1
  | .map entries => uptoBulkEntries entries + 1
  | .held _ => 1
def uptoBulkAll {H : Type} : List (DataW H) → Nat
  | [] => 0
  | d :: r => uptoBulk d + uptoBulkAll r
def uptoBulkEntries {H : Type} : List (Lit × DataW H) → Nat
  | [] => 0
  | x :: r => uptoBulkEntry x + uptoBulkEntries r
def uptoBulkEntry {H : Type} : Lit × DataW H → Nat
  | (.string bytes, d) => bytes.length + uptoBulk d + 1
  | (_, d) => uptoBulk d + 1
 end
def uptoSmall : (H : Type) → List (DataW H) → Bool := fun _ ds => decide (uptoBulkAll ds ≤ 1048576)
def OpenSpec.upto (s : _root_.Go.ChangeSpec) : _root_.Go.OpenSpec := { _root_.Go.OpenSpec.ofChange s with cond := some uptoSmall }

/-- 'laws.FnLeastPeriod', WHERE WHAT IT READS IS OF BULK AT MOST 1048576: true; the input reads as it did. -/
def fnLeastPeriodUptoRow : OpenClaim := { program := "ytjeadndajndmhaa", sum := "d10b40789f9c98c75ed83423bd46b80582e3950cb154ee2de58e4c541d54bf9c", func := "loop.example/spreadspectrum/laws.FnLeastPeriod", spec := "fnLeastPeriod", apart := false, narrowed := true }
def FnLeastPeriodUptoSaid : Prop := fnLeastPeriodUptoRow.holds Try.pinned (OpenSpec.upto fnLeastPeriodSpec)

/-- 'laws.FnRotation', WHERE WHAT IT READS IS OF BULK AT MOST 1048576: true; the input reads as it did. -/
def fnRotationUptoRow : OpenClaim := { program := "ytjeadndajndmhaa", sum := "d10b40789f9c98c75ed83423bd46b80582e3950cb154ee2de58e4c541d54bf9c", func := "loop.example/spreadspectrum/laws.FnRotation", spec := "fnRotation", apart := false, narrowed := true }
def FnRotationUptoSaid : Prop := fnRotationUptoRow.holds Try.pinned (OpenSpec.upto fnRotationSpec)

/-- 'laws.FnShiftBetween', WHERE WHAT IT READS IS OF BULK AT MOST 1048576: true; the input reads as it did. -/
def fnShiftBetweenUptoRow : OpenClaim := { program := "ytjeadndajndmhaa", sum := "d10b40789f9c98c75ed83423bd46b80582e3950cb154ee2de58e4c541d54bf9c", func := "loop.example/spreadspectrum/laws.FnShiftBetween", spec := "fnShiftBetween", recurses := true, apart := false, narrowed := true }
def FnShiftBetweenUptoSaid : Prop := fnShiftBetweenUptoRow.holds Try.pinned (OpenSpec.upto fnShiftBetweenSpec)

/-- 'laws.FnPeak', WHERE WHAT IT READS IS OF BULK AT MOST 1048576: true; the input reads as it did. -/
def fnPeakUptoRow : OpenClaim := { program := "ytjeadndajndmhaa", sum := "d10b40789f9c98c75ed83423bd46b80582e3950cb154ee2de58e4c541d54bf9c", func := "loop.example/spreadspectrum/laws.FnPeak", spec := "fnPeak", recurses := true, apart := false, narrowed := true }
def FnPeakUptoSaid : Prop := fnPeakUptoRow.holds Try.pinned (OpenSpec.upto fnPeakSpec)

/-- 'laws.FnCrossTable', WHERE WHAT IT READS IS OF BULK AT MOST 1048576: true; the input reads as it did. -/
def fnCrossTableUptoRow : OpenClaim := { program := "ytjeadndajndmhaa", sum := "d10b40789f9c98c75ed83423bd46b80582e3950cb154ee2de58e4c541d54bf9c", func := "loop.example/spreadspectrum/laws.FnCrossTable", spec := "fnCrossTable", recurses := true, apart := false, narrowed := true }
def FnCrossTableUptoSaid : Prop := fnCrossTableUptoRow.holds Try.pinned (OpenSpec.upto fnCrossTableSpec)

/-- 'laws.FnExactMaximalTaps', WHERE WHAT IT READS IS OF BULK AT MOST 1048576: true; the input reads as it did. -/
def fnExactMaximalTapsUptoRow : OpenClaim := { program := "ytjeadndajndmhaa", sum := "d10b40789f9c98c75ed83423bd46b80582e3950cb154ee2de58e4c541d54bf9c", func := "loop.example/spreadspectrum/laws.FnExactMaximalTaps", spec := "fnExactMaximalTaps", apart := false, narrowed := true }
def FnExactMaximalTapsUptoSaid : Prop := fnExactMaximalTapsUptoRow.holds Try.pinned (OpenSpec.upto fnExactMaximalTapsSpec)

end Rows
end Go.Proofs.Ytjeadndajndmhaa
