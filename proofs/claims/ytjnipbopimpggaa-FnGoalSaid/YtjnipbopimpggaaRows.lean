/-
  No cell of these rows narrows 'for every input' (looked for: loops, veiled, ifaces, maps, wideKeys, modest, calm, conditions, laid).
  DERIVED. THE GIVEN ROWS OF THIS SEAT. 10 by the template 'for every input the law returns true; each argument reads behind the call as it read before'; 0 by the template 'total and deterministic' (their statements: YtjnipbopimpggaaTotals.lean).
  GIVEN WITH THE SEED: the statements are not yours to turn. If you find one false, say at which input.
  Laid BY PROGRAM, IN A SANDBOX (cutbox-rows.mjs): the forced cells as the released guide's own fill.sh prints them over the translation 0af19d33b19f646a… (all of the seat's roots in one cut). By AI agents, Wed Nov 11 2026. No macro, syntax, notation, axiom, sorry.
-/
import Derived.Test.YtjnipbopimpggaaChecked
import GoSem.Claim
import GoSem.ClaimJoined
import GoSem.ClaimMapViews
import Derived.JoinedTies
import Derived.KernelRfl
namespace Go.Proofs.Ytjnipbopimpggaa
/- THE CELL 'sum', in the pinned program and in every row, IS THE sha256 OF THE DUMP (.gsa) THAT YtjnipbopimpggaaProg.lean LOADS. Nothing in Lean hashes anything: it is a label: what it is worth is what the hold of that sum in a sandbox is worth. -/
noncomputable def Try.pinned : Pinned := { name := "ytjnipbopimpggaa", sum := "0af19d33b19f646a653c7c36662d1f15f29af030c28dca5dd8ec3f370a8ed40a", checked := Try.checked }
namespace Rows
def none {H : Type} : Left H := { results := [], args := [] }

/-- 'laws.FnExactCellValid': WHATEVER THE INPUT: true; the input reads as it did. -/
def fnExactCellValidSpec : ChangeSpec := { name := "fnExactCellValid", fn := fun _ => fun
  | [d] => { results := [.lit (.bool true)], args := [d] }
  | _ => none }
def fnExactCellValidRow : OpenClaim := { program := "ytjnipbopimpggaa", sum := "0af19d33b19f646a653c7c36662d1f15f29af030c28dca5dd8ec3f370a8ed40a", func := "loop.example/spreadspectrum/laws.FnExactCellValid", spec := "fnExactCellValid", apart := false }
def FnExactCellValidSaid : Prop := fnExactCellValidRow.holds Try.pinned (OpenSpec.ofChange fnExactCellValidSpec)

/-- ITS FALSE NEIGHBOUR: 'it returns false'. Refute it at one input. -/
def fnExactCellValidWrong : ChangeSpec := { name := "fnExactCellValid", fn := fun _ => fun
  | [d] => { results := [.lit (.bool false)], args := [d] }
  | _ => none }
def FnExactCellValidWrongFalsely : Prop := fnExactCellValidRow.holds Try.pinned (OpenSpec.ofChange fnExactCellValidWrong)

/-- 'laws.FnExactPowerGoal': WHATEVER THE INPUT: true; the input reads as it did. -/
def fnExactPowerGoalSpec : ChangeSpec := { name := "fnExactPowerGoal", fn := fun _ => fun
  | [d1, d2] => { results := [.lit (.bool true)], args := [d1, d2] }
  | _ => none }
def fnExactPowerGoalRow : OpenClaim := { program := "ytjnipbopimpggaa", sum := "0af19d33b19f646a653c7c36662d1f15f29af030c28dca5dd8ec3f370a8ed40a", func := "loop.example/spreadspectrum/laws.FnExactPowerGoal", spec := "fnExactPowerGoal", apart := false }
def FnExactPowerGoalSaid : Prop := fnExactPowerGoalRow.holds Try.pinned (OpenSpec.ofChange fnExactPowerGoalSpec)

/-- ITS FALSE NEIGHBOUR: 'it returns false'. Refute it at one input. -/
def fnExactPowerGoalWrong : ChangeSpec := { name := "fnExactPowerGoal", fn := fun _ => fun
  | [d1, d2] => { results := [.lit (.bool false)], args := [d1, d2] }
  | _ => none }
def FnExactPowerGoalWrongFalsely : Prop := fnExactPowerGoalRow.holds Try.pinned (OpenSpec.ofChange fnExactPowerGoalWrong)

/-- 'laws.FnExactStrengthOf': WHATEVER THE INPUT: true; the input reads as it did. -/
def fnExactStrengthOfSpec : ChangeSpec := { name := "fnExactStrengthOf", fn := fun _ => fun
  | [d] => { results := [.lit (.bool true)], args := [d] }
  | _ => none }
def fnExactStrengthOfRow : OpenClaim := { program := "ytjnipbopimpggaa", sum := "0af19d33b19f646a653c7c36662d1f15f29af030c28dca5dd8ec3f370a8ed40a", func := "loop.example/spreadspectrum/laws.FnExactStrengthOf", spec := "fnExactStrengthOf", apart := false }
def FnExactStrengthOfSaid : Prop := fnExactStrengthOfRow.holds Try.pinned (OpenSpec.ofChange fnExactStrengthOfSpec)

/-- ITS FALSE NEIGHBOUR: 'it returns false'. Refute it at one input. -/
def fnExactStrengthOfWrong : ChangeSpec := { name := "fnExactStrengthOf", fn := fun _ => fun
  | [d] => { results := [.lit (.bool false)], args := [d] }
  | _ => none }
def FnExactStrengthOfWrongFalsely : Prop := fnExactStrengthOfRow.holds Try.pinned (OpenSpec.ofChange fnExactStrengthOfWrong)

/-- 'laws.FnExactPowerTime': WHATEVER THE INPUT: true; the input reads as it did. -/
def fnExactPowerTimeSpec : ChangeSpec := { name := "fnExactPowerTime", fn := fun _ => fun
  | [d1, d2] => { results := [.lit (.bool true)], args := [d1, d2] }
  | _ => none }
def fnExactPowerTimeRow : OpenClaim := { program := "ytjnipbopimpggaa", sum := "0af19d33b19f646a653c7c36662d1f15f29af030c28dca5dd8ec3f370a8ed40a", func := "loop.example/spreadspectrum/laws.FnExactPowerTime", spec := "fnExactPowerTime", apart := false }
def FnExactPowerTimeSaid : Prop := fnExactPowerTimeRow.holds Try.pinned (OpenSpec.ofChange fnExactPowerTimeSpec)

/-- ITS FALSE NEIGHBOUR: 'it returns false'. Refute it at one input. -/
def fnExactPowerTimeWrong : ChangeSpec := { name := "fnExactPowerTime", fn := fun _ => fun
  | [d1, d2] => { results := [.lit (.bool false)], args := [d1, d2] }
  | _ => none }
def FnExactPowerTimeWrongFalsely : Prop := fnExactPowerTimeRow.holds Try.pinned (OpenSpec.ofChange fnExactPowerTimeWrong)

/-- 'laws.FnExactPowerStep': WHATEVER THE INPUT: true; the input reads as it did. -/
def fnExactPowerStepSpec : ChangeSpec := { name := "fnExactPowerStep", fn := fun _ => fun
  | [d1, d2] => { results := [.lit (.bool true)], args := [d1, d2] }
  | _ => none }
def fnExactPowerStepRow : OpenClaim := { program := "ytjnipbopimpggaa", sum := "0af19d33b19f646a653c7c36662d1f15f29af030c28dca5dd8ec3f370a8ed40a", func := "loop.example/spreadspectrum/laws.FnExactPowerStep", spec := "fnExactPowerStep", apart := false }
def FnExactPowerStepSaid : Prop := fnExactPowerStepRow.holds Try.pinned (OpenSpec.ofChange fnExactPowerStepSpec)

/-- ITS FALSE NEIGHBOUR: 'it returns false'. Refute it at one input. -/
def fnExactPowerStepWrong : ChangeSpec := { name := "fnExactPowerStep", fn := fun _ => fun
  | [d1, d2] => { results := [.lit (.bool false)], args := [d1, d2] }
  | _ => none }
def FnExactPowerStepWrongFalsely : Prop := fnExactPowerStepRow.holds Try.pinned (OpenSpec.ofChange fnExactPowerStepWrong)

/-- 'laws.FnExactReleaseStation': WHATEVER THE INPUT: true; the input reads as it did. -/
def fnExactReleaseStationSpec : ChangeSpec := { name := "fnExactReleaseStation", fn := fun _ => fun
  | [d1, d2] => { results := [.lit (.bool true)], args := [d1, d2] }
  | _ => none }
def fnExactReleaseStationRow : OpenClaim := { program := "ytjnipbopimpggaa", sum := "0af19d33b19f646a653c7c36662d1f15f29af030c28dca5dd8ec3f370a8ed40a", func := "loop.example/spreadspectrum/laws.FnExactReleaseStation", spec := "fnExactReleaseStation", unfollowed := true, recurses := true, apart := false }
def FnExactReleaseStationSaid : Prop := fnExactReleaseStationRow.holds Try.pinned (OpenSpec.ofChange fnExactReleaseStationSpec)

/-- ITS FALSE NEIGHBOUR: 'it returns false'. Refute it at one input. -/
def fnExactReleaseStationWrong : ChangeSpec := { name := "fnExactReleaseStation", fn := fun _ => fun
  | [d1, d2] => { results := [.lit (.bool false)], args := [d1, d2] }
  | _ => none }
def FnExactReleaseStationWrongFalsely : Prop := fnExactReleaseStationRow.holds Try.pinned (OpenSpec.ofChange fnExactReleaseStationWrong)

/-- 'laws.FnExactAdmitStation': WHATEVER THE INPUT: true; the input reads as it did. -/
def fnExactAdmitStationSpec : ChangeSpec := { name := "fnExactAdmitStation", fn := fun _ => fun
  | [d1, d2, d3, d4] => { results := [.lit (.bool true)], args := [d1, d2, d3, d4] }
  | _ => none }
def fnExactAdmitStationRow : OpenClaim := { program := "ytjnipbopimpggaa", sum := "0af19d33b19f646a653c7c36662d1f15f29af030c28dca5dd8ec3f370a8ed40a", func := "loop.example/spreadspectrum/laws.FnExactAdmitStation", spec := "fnExactAdmitStation", unfollowed := true, recurses := true, apart := false }
def FnExactAdmitStationSaid : Prop := fnExactAdmitStationRow.holds Try.pinned (OpenSpec.ofChange fnExactAdmitStationSpec)

/-- ITS FALSE NEIGHBOUR: 'it returns false'. Refute it at one input. -/
def fnExactAdmitStationWrong : ChangeSpec := { name := "fnExactAdmitStation", fn := fun _ => fun
  | [d1, d2, d3, d4] => { results := [.lit (.bool false)], args := [d1, d2, d3, d4] }
  | _ => none }
def FnExactAdmitStationWrongFalsely : Prop := fnExactAdmitStationRow.holds Try.pinned (OpenSpec.ofChange fnExactAdmitStationWrong)

/-- 'laws.FnExactCellReceive': WHATEVER THE INPUT: true; the input reads as it did. -/
def fnExactCellReceiveSpec : ChangeSpec := { name := "fnExactCellReceive", fn := fun _ => fun
  | [d1, d2, d3, d4] => { results := [.lit (.bool true)], args := [d1, d2, d3, d4] }
  | _ => none }
def fnExactCellReceiveRow : OpenClaim := { program := "ytjnipbopimpggaa", sum := "0af19d33b19f646a653c7c36662d1f15f29af030c28dca5dd8ec3f370a8ed40a", func := "loop.example/spreadspectrum/laws.FnExactCellReceive", spec := "fnExactCellReceive", unfollowed := true, recurses := true, apart := false }
def FnExactCellReceiveSaid : Prop := fnExactCellReceiveRow.holds Try.pinned (OpenSpec.ofChange fnExactCellReceiveSpec)

/-- ITS FALSE NEIGHBOUR: 'it returns false'. Refute it at one input. -/
def fnExactCellReceiveWrong : ChangeSpec := { name := "fnExactCellReceive", fn := fun _ => fun
  | [d1, d2, d3, d4] => { results := [.lit (.bool false)], args := [d1, d2, d3, d4] }
  | _ => none }
def FnExactCellReceiveWrongFalsely : Prop := fnExactCellReceiveRow.holds Try.pinned (OpenSpec.ofChange fnExactCellReceiveWrong)

/-- 'laws.FnGoal': WHATEVER THE INPUT: true; the input reads as it did. -/
def fnGoalSpec : ChangeSpec := { name := "fnGoal", fn := fun _ => fun
  | [d] => { results := [.lit (.bool true)], args := [d] }
  | _ => none }
def fnGoalRow : OpenClaim := { program := "ytjnipbopimpggaa", sum := "0af19d33b19f646a653c7c36662d1f15f29af030c28dca5dd8ec3f370a8ed40a", func := "loop.example/spreadspectrum/laws.FnGoal", spec := "fnGoal", recurses := true, apart := false }
def FnGoalSaid : Prop := fnGoalRow.holds Try.pinned (OpenSpec.ofChange fnGoalSpec)

/-- ITS FALSE NEIGHBOUR: 'it returns false'. Refute it at one input. -/
def fnGoalWrong : ChangeSpec := { name := "fnGoal", fn := fun _ => fun
  | [d] => { results := [.lit (.bool false)], args := [d] }
  | _ => none }
def FnGoalWrongFalsely : Prop := fnGoalRow.holds Try.pinned (OpenSpec.ofChange fnGoalWrong)

/-- 'laws.FnPowerStep': WHATEVER THE INPUT: true; the input reads as it did. -/
def fnPowerStepSpec : ChangeSpec := { name := "fnPowerStep", fn := fun _ => fun
  | [d] => { results := [.lit (.bool true)], args := [d] }
  | _ => none }
def fnPowerStepRow : OpenClaim := { program := "ytjnipbopimpggaa", sum := "0af19d33b19f646a653c7c36662d1f15f29af030c28dca5dd8ec3f370a8ed40a", func := "loop.example/spreadspectrum/laws.FnPowerStep", spec := "fnPowerStep", recurses := true, apart := false }
def FnPowerStepSaid : Prop := fnPowerStepRow.holds Try.pinned (OpenSpec.ofChange fnPowerStepSpec)

/-- ITS FALSE NEIGHBOUR: 'it returns false'. Refute it at one input. -/
def fnPowerStepWrong : ChangeSpec := { name := "fnPowerStep", fn := fun _ => fun
  | [d] => { results := [.lit (.bool false)], args := [d] }
  | _ => none }
def FnPowerStepWrongFalsely : Prop := fnPowerStepRow.holds Try.pinned (OpenSpec.ofChange fnPowerStepWrong)

/- THE SECOND FORM. 'bulk': how many values and letters a reading holds, each counted each time it is reached (what is shared counts as often as it is met; a slice's spare places count too). A statement '..UptoSaid' is the law's where the arguments, and the package variables that the reading takes, are together of bulk at most 1048576: NARROWER than '..Said'. Prove '..Said' where nothing that the law and all that it calls make is longer than what came in: it says more and counts as full. Else prove '..UptoSaid'. A law counts once. -/
mutual
def uptoBulk {H : Type} : DataW H → Nat
  | .lit (.string bytes) => bytes.length + 1
  | .lit _ => 1
  | .nil => 1
  | .ptr d => uptoBulk d + 1
  | .slice elems spare => uptoBulkAll elems + uptoBulkAll spare + 1
  | .agg parts => uptoBulkAll parts + 1
  | .iface _ d => uptoBulk d + 1
  | .map entries => uptoBulkEntries entries + 1
  | .held _ => 1
def uptoBulkAll {H : Type} : List (DataW H) → Nat
  | [] => 0
  | d :: r => uptoBulk d + uptoBulkAll r
def uptoBulkEntries {H : Type} : List (Lit × DataW H) → Nat
  | [] => 0
  | x :: r => uptoBulkEntry x + uptoBulkEntries r
def uptoBulkEntry {H : Type} : Lit × DataW H → Nat
  | (.string bytes, d) => bytes.length + uptoBulk d + 1
  | (_, d) => uptoBulk d + 1
 end
def uptoSmall : (H : Type) → List (DataW H) → Bool := fun _ ds => decide (uptoBulkAll ds ≤ 1048576)
def OpenSpec.upto (s : _root_.Go.ChangeSpec) : _root_.Go.OpenSpec := { _root_.Go.OpenSpec.ofChange s with cond := some uptoSmall }

/-- 'laws.FnExactCellValid', WHERE WHAT IT READS IS OF BULK AT MOST 1048576: true; the input reads as it did. -/
def fnExactCellValidUptoRow : OpenClaim := { program := "ytjnipbopimpggaa", sum := "0af19d33b19f646a653c7c36662d1f15f29af030c28dca5dd8ec3f370a8ed40a", func := "loop.example/spreadspectrum/laws.FnExactCellValid", spec := "fnExactCellValid", apart := false, narrowed := true }
def FnExactCellValidUptoSaid : Prop := fnExactCellValidUptoRow.holds Try.pinned (OpenSpec.upto fnExactCellValidSpec)

/-- 'laws.FnExactPowerGoal', WHERE WHAT IT READS IS OF BULK AT MOST 1048576: true; the input reads as it did. -/
def fnExactPowerGoalUptoRow : OpenClaim := { program := "ytjnipbopimpggaa", sum := "0af19d33b19f646a653c7c36662d1f15f29af030c28dca5dd8ec3f370a8ed40a", func := "loop.example/spreadspectrum/laws.FnExactPowerGoal", spec := "fnExactPowerGoal", apart := false, narrowed := true }
def FnExactPowerGoalUptoSaid : Prop := fnExactPowerGoalUptoRow.holds Try.pinned (OpenSpec.upto fnExactPowerGoalSpec)

/-- 'laws.FnExactStrengthOf', WHERE WHAT IT READS IS OF BULK AT MOST 1048576: true; the input reads as it did. -/
def fnExactStrengthOfUptoRow : OpenClaim := { program := "ytjnipbopimpggaa", sum := "0af19d33b19f646a653c7c36662d1f15f29af030c28dca5dd8ec3f370a8ed40a", func := "loop.example/spreadspectrum/laws.FnExactStrengthOf", spec := "fnExactStrengthOf", apart := false, narrowed := true }
def FnExactStrengthOfUptoSaid : Prop := fnExactStrengthOfUptoRow.holds Try.pinned (OpenSpec.upto fnExactStrengthOfSpec)

/-- 'laws.FnExactPowerTime', WHERE WHAT IT READS IS OF BULK AT MOST 1048576: true; the input reads as it did. -/
def fnExactPowerTimeUptoRow : OpenClaim := { program := "ytjnipbopimpggaa", sum := "0af19d33b19f646a653c7c36662d1f15f29af030c28dca5dd8ec3f370a8ed40a", func := "loop.example/spreadspectrum/laws.FnExactPowerTime", spec := "fnExactPowerTime", apart := false, narrowed := true }
def FnExactPowerTimeUptoSaid : Prop := fnExactPowerTimeUptoRow.holds Try.pinned (OpenSpec.upto fnExactPowerTimeSpec)

/-- 'laws.FnExactPowerStep', WHERE WHAT IT READS IS OF BULK AT MOST 1048576: true; the input reads as it did. -/
def fnExactPowerStepUptoRow : OpenClaim := { program := "ytjnipbopimpggaa", sum := "0af19d33b19f646a653c7c36662d1f15f29af030c28dca5dd8ec3f370a8ed40a", func := "loop.example/spreadspectrum/laws.FnExactPowerStep", spec := "fnExactPowerStep", apart := false, narrowed := true }
def FnExactPowerStepUptoSaid : Prop := fnExactPowerStepUptoRow.holds Try.pinned (OpenSpec.upto fnExactPowerStepSpec)

/-- 'laws.FnExactReleaseStation', WHERE WHAT IT READS IS OF BULK AT MOST 1048576: true; the input reads as it did. -/
def fnExactReleaseStationUptoRow : OpenClaim := { program := "ytjnipbopimpggaa", sum := "0af19d33b19f646a653c7c36662d1f15f29af030c28dca5dd8ec3f370a8ed40a", func := "loop.example/spreadspectrum/laws.FnExactReleaseStation", spec := "fnExactReleaseStation", unfollowed := true, recurses := true, apart := false, narrowed := true }
def FnExactReleaseStationUptoSaid : Prop := fnExactReleaseStationUptoRow.holds Try.pinned (OpenSpec.upto fnExactReleaseStationSpec)

/-- 'laws.FnExactAdmitStation', WHERE WHAT IT READS IS OF BULK AT MOST 1048576: true; the input reads as it did. -/
def fnExactAdmitStationUptoRow : OpenClaim := { program := "ytjnipbopimpggaa", sum := "0af19d33b19f646a653c7c36662d1f15f29af030c28dca5dd8ec3f370a8ed40a", func := "loop.example/spreadspectrum/laws.FnExactAdmitStation", spec := "fnExactAdmitStation", unfollowed := true, recurses := true, apart := false, narrowed := true }
def FnExactAdmitStationUptoSaid : Prop := fnExactAdmitStationUptoRow.holds Try.pinned (OpenSpec.upto fnExactAdmitStationSpec)

/-- 'laws.FnExactCellReceive', WHERE WHAT IT READS IS OF BULK AT MOST 1048576: true; the input reads as it did. -/
def fnExactCellReceiveUptoRow : OpenClaim := { program := "ytjnipbopimpggaa", sum := "0af19d33b19f646a653c7c36662d1f15f29af030c28dca5dd8ec3f370a8ed40a", func := "loop.example/spreadspectrum/laws.FnExactCellReceive", spec := "fnExactCellReceive", unfollowed := true, recurses := true, apart := false, narrowed := true }
def FnExactCellReceiveUptoSaid : Prop := fnExactCellReceiveUptoRow.holds Try.pinned (OpenSpec.upto fnExactCellReceiveSpec)

/-- 'laws.FnGoal', WHERE WHAT IT READS IS OF BULK AT MOST 1048576: true; the input reads as it did. -/
def fnGoalUptoRow : OpenClaim := { program := "ytjnipbopimpggaa", sum := "0af19d33b19f646a653c7c36662d1f15f29af030c28dca5dd8ec3f370a8ed40a", func := "loop.example/spreadspectrum/laws.FnGoal", spec := "fnGoal", recurses := true, apart := false, narrowed := true }
def FnGoalUptoSaid : Prop := fnGoalUptoRow.holds Try.pinned (OpenSpec.upto fnGoalSpec)

/-- 'laws.FnPowerStep', WHERE WHAT IT READS IS OF BULK AT MOST 1048576: true; the input reads as it did. -/
def fnPowerStepUptoRow : OpenClaim := { program := "ytjnipbopimpggaa", sum := "0af19d33b19f646a653c7c36662d1f15f29af030c28dca5dd8ec3f370a8ed40a", func := "loop.example/spreadspectrum/laws.FnPowerStep", spec := "fnPowerStep", recurses := true, apart := false, narrowed := true }
def FnPowerStepUptoSaid : Prop := fnPowerStepUptoRow.holds Try.pinned (OpenSpec.upto fnPowerStepSpec)

end Rows
end Go.Proofs.Ytjnipbopimpggaa
