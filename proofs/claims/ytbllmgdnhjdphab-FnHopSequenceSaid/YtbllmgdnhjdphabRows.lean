/-
  No cell of these rows narrows 'for every input' (looked for: loops, veiled, ifaces, maps, wideKeys, modest, calm, conditions, laid).
  DERIVED. THE GIVEN ROWS OF THIS SEAT. 7 by the template 'for every input the law returns true; each argument reads behind the call as it read before'; 0 by the template 'total and deterministic' (their statements: YtbllmgdnhjdphabTotals.lean).
  GIVEN WITH THE SEED: the statements are not yours to turn. If you find one false, say at which input.
  Laid BY PROGRAM, IN A SANDBOX (cutbox-rows.mjs): the forced cells as the released guide's own fill.sh prints them over the translation bff75992ef807208… (all of the seat's roots in one cut). By AI agents, Wed Nov 11 2026. No macro, syntax, notation, axiom, sorry.
-/
import Derived.Test.YtbllmgdnhjdphabChecked
import GoSem.Claim
import GoSem.ClaimJoined
import GoSem.ClaimMapViews
import Derived.JoinedTies
import Derived.KernelRfl
namespace Go.Proofs.Ytbllmgdnhjdphab
/- THE CELL 'sum', in the pinned program and in every row, IS THE sha256 OF THE DUMP (.gsa) THAT YtbllmgdnhjdphabProg.lean LOADS. Nothing in Lean hashes anything: it is a label: what it is worth is what the hold of that sum in a sandbox is worth. -/
noncomputable def Try.pinned : Pinned := { name := "ytbllmgdnhjdphab", sum := "bff75992ef80720836092adc9c239d89a625195feebbfa477184c7a6b20fc7f7", checked := Try.checked }
namespace Rows
def none {H : Type} : Left H := { results := [], args := [] }

/-- 'laws.FnExactSendHops': WHATEVER THE INPUT: true; the input reads as it did. -/
def fnExactSendHopsSpec : ChangeSpec := { name := "fnExactSendHops", fn := fun _ => fun
  | [d1, d2, d3] => { results := [.lit (.bool true)], args := [d1, d2, d3] }
  | _ => none }
def fnExactSendHopsRow : OpenClaim := { program := "ytbllmgdnhjdphab", sum := "bff75992ef80720836092adc9c239d89a625195feebbfa477184c7a6b20fc7f7", func := "loop.example/spreadspectrum/laws.FnExactSendHops", spec := "fnExactSendHops", unfollowed := true, recurses := true, apart := false }
def FnExactSendHopsSaid : Prop := fnExactSendHopsRow.holds Try.pinned (OpenSpec.ofChange fnExactSendHopsSpec)

/-- ITS FALSE NEIGHBOUR: 'it returns false'. Refute it at one input. -/
def fnExactSendHopsWrong : ChangeSpec := { name := "fnExactSendHops", fn := fun _ => fun
  | [d1, d2, d3] => { results := [.lit (.bool false)], args := [d1, d2, d3] }
  | _ => none }
def FnExactSendHopsWrongFalsely : Prop := fnExactSendHopsRow.holds Try.pinned (OpenSpec.ofChange fnExactSendHopsWrong)

/-- 'laws.FnExactSyncHops': WHATEVER THE INPUT: true; the input reads as it did. -/
def fnExactSyncHopsSpec : ChangeSpec := { name := "fnExactSyncHops", fn := fun _ => fun
  | [d1, d2, d3, d4] => { results := [.lit (.bool true)], args := [d1, d2, d3, d4] }
  | _ => none }
def fnExactSyncHopsRow : OpenClaim := { program := "ytbllmgdnhjdphab", sum := "bff75992ef80720836092adc9c239d89a625195feebbfa477184c7a6b20fc7f7", func := "loop.example/spreadspectrum/laws.FnExactSyncHops", spec := "fnExactSyncHops", apart := false }
def FnExactSyncHopsSaid : Prop := fnExactSyncHopsRow.holds Try.pinned (OpenSpec.ofChange fnExactSyncHopsSpec)

/-- ITS FALSE NEIGHBOUR: 'it returns false'. Refute it at one input. -/
def fnExactSyncHopsWrong : ChangeSpec := { name := "fnExactSyncHops", fn := fun _ => fun
  | [d1, d2, d3, d4] => { results := [.lit (.bool false)], args := [d1, d2, d3, d4] }
  | _ => none }
def FnExactSyncHopsWrongFalsely : Prop := fnExactSyncHopsRow.holds Try.pinned (OpenSpec.ofChange fnExactSyncHopsWrong)

/-- 'laws.FnHopSequence': WHATEVER THE INPUT: true; the input reads as it did. -/
def fnHopSequenceSpec : ChangeSpec := { name := "fnHopSequence", fn := fun _ => fun
  | [d1, d2] => { results := [.lit (.bool true)], args := [d1, d2] }
  | _ => none }
def fnHopSequenceRow : OpenClaim := { program := "ytbllmgdnhjdphab", sum := "bff75992ef80720836092adc9c239d89a625195feebbfa477184c7a6b20fc7f7", func := "loop.example/spreadspectrum/laws.FnHopSequence", spec := "fnHopSequence", apart := false }
def FnHopSequenceSaid : Prop := fnHopSequenceRow.holds Try.pinned (OpenSpec.ofChange fnHopSequenceSpec)

/-- ITS FALSE NEIGHBOUR: 'it returns false'. Refute it at one input. -/
def fnHopSequenceWrong : ChangeSpec := { name := "fnHopSequence", fn := fun _ => fun
  | [d1, d2] => { results := [.lit (.bool false)], args := [d1, d2] }
  | _ => none }
def FnHopSequenceWrongFalsely : Prop := fnHopSequenceRow.holds Try.pinned (OpenSpec.ofChange fnHopSequenceWrong)

/-- 'laws.FnLinearMeet': WHATEVER THE INPUT: true; the input reads as it did. -/
def fnLinearMeetSpec : ChangeSpec := { name := "fnLinearMeet", fn := fun _ => fun
  | [d1, d2] => { results := [.lit (.bool true)], args := [d1, d2] }
  | _ => none }
def fnLinearMeetRow : OpenClaim := { program := "ytbllmgdnhjdphab", sum := "bff75992ef80720836092adc9c239d89a625195feebbfa477184c7a6b20fc7f7", func := "loop.example/spreadspectrum/laws.FnLinearMeet", spec := "fnLinearMeet", apart := false }
def FnLinearMeetSaid : Prop := fnLinearMeetRow.holds Try.pinned (OpenSpec.ofChange fnLinearMeetSpec)

/-- ITS FALSE NEIGHBOUR: 'it returns false'. Refute it at one input. -/
def fnLinearMeetWrong : ChangeSpec := { name := "fnLinearMeet", fn := fun _ => fun
  | [d1, d2] => { results := [.lit (.bool false)], args := [d1, d2] }
  | _ => none }
def FnLinearMeetWrongFalsely : Prop := fnLinearMeetRow.holds Try.pinned (OpenSpec.ofChange fnLinearMeetWrong)

/-- 'laws.FnShiftHops': WHATEVER THE INPUT: true; the input reads as it did. -/
def fnShiftHopsSpec : ChangeSpec := { name := "fnShiftHops", fn := fun _ => fun
  | [d1, d2] => { results := [.lit (.bool true)], args := [d1, d2] }
  | _ => none }
def fnShiftHopsRow : OpenClaim := { program := "ytbllmgdnhjdphab", sum := "bff75992ef80720836092adc9c239d89a625195feebbfa477184c7a6b20fc7f7", func := "loop.example/spreadspectrum/laws.FnShiftHops", spec := "fnShiftHops", apart := false }
def FnShiftHopsSaid : Prop := fnShiftHopsRow.holds Try.pinned (OpenSpec.ofChange fnShiftHopsSpec)

/-- ITS FALSE NEIGHBOUR: 'it returns false'. Refute it at one input. -/
def fnShiftHopsWrong : ChangeSpec := { name := "fnShiftHops", fn := fun _ => fun
  | [d1, d2] => { results := [.lit (.bool false)], args := [d1, d2] }
  | _ => none }
def FnShiftHopsWrongFalsely : Prop := fnShiftHopsRow.holds Try.pinned (OpenSpec.ofChange fnShiftHopsWrong)

/-- 'laws.FnMoveHops': WHATEVER THE INPUT: true; the input reads as it did. -/
def fnMoveHopsSpec : ChangeSpec := { name := "fnMoveHops", fn := fun _ => fun
  | [d] => { results := [.lit (.bool true)], args := [d] }
  | _ => none }
def fnMoveHopsRow : OpenClaim := { program := "ytbllmgdnhjdphab", sum := "bff75992ef80720836092adc9c239d89a625195feebbfa477184c7a6b20fc7f7", func := "loop.example/spreadspectrum/laws.FnMoveHops", spec := "fnMoveHops", apart := false }
def FnMoveHopsSaid : Prop := fnMoveHopsRow.holds Try.pinned (OpenSpec.ofChange fnMoveHopsSpec)

/-- ITS FALSE NEIGHBOUR: 'it returns false'. Refute it at one input. -/
def fnMoveHopsWrong : ChangeSpec := { name := "fnMoveHops", fn := fun _ => fun
  | [d] => { results := [.lit (.bool false)], args := [d] }
  | _ => none }
def FnMoveHopsWrongFalsely : Prop := fnMoveHopsRow.holds Try.pinned (OpenSpec.ofChange fnMoveHopsWrong)

/-- 'laws.FnCollisions': WHATEVER THE INPUT: true; the input reads as it did. -/
def fnCollisionsSpec : ChangeSpec := { name := "fnCollisions", fn := fun _ => fun
  | [d] => { results := [.lit (.bool true)], args := [d] }
  | _ => none }
def fnCollisionsRow : OpenClaim := { program := "ytbllmgdnhjdphab", sum := "bff75992ef80720836092adc9c239d89a625195feebbfa477184c7a6b20fc7f7", func := "loop.example/spreadspectrum/laws.FnCollisions", spec := "fnCollisions", apart := false }
def FnCollisionsSaid : Prop := fnCollisionsRow.holds Try.pinned (OpenSpec.ofChange fnCollisionsSpec)

/-- ITS FALSE NEIGHBOUR: 'it returns false'. Refute it at one input. -/
def fnCollisionsWrong : ChangeSpec := { name := "fnCollisions", fn := fun _ => fun
  | [d] => { results := [.lit (.bool false)], args := [d] }
  | _ => none }
def FnCollisionsWrongFalsely : Prop := fnCollisionsRow.holds Try.pinned (OpenSpec.ofChange fnCollisionsWrong)

/- THE SECOND FORM. 'bulk': how many values and letters a reading holds, each counted each time it is reached (what is shared counts as often as it is met; a slice's spare places count too). A statement '..UptoSaid' is the law's where the arguments, and the package variables that the reading takes, are together of bulk at most 1048576: NARROWER than '..Said'. Prove '..Said' where nothing that the law and all that it calls make is longer than what came in: it says more and counts as full. Else prove '..UptoSaid'. A law counts once. -/
mutual
def uptoBulk {H : Type} : DataW H → Nat
  | .lit (.string bytes) => bytes.length + 1
  | .lit _ => 1
  | .nil => 1
  | .ptr d => uptoBulk d + 1
  | .slice elems spare => uptoBulkAll elems + uptoBulkAll spare + 1
  | .agg parts => uptoBulkAll parts + 1
  | .iface _ d => uptoBulk d + 1
  | .map entries => uptoBulkEntries entries + 1
  | .held _ => 1
def uptoBulkAll {H : Type} : List (DataW H) → Nat
  | [] => 0
  | d :: r => uptoBulk d + uptoBulkAll r
def uptoBulkEntries {H : Type} : List (Lit × DataW H) → Nat
  | [] => 0
  | x :: r => uptoBulkEntry x + uptoBulkEntries r
def uptoBulkEntry {H : Type} : Lit × DataW H → Nat
  | (.string bytes, d) => bytes.length + uptoBulk d + 1
  | (_, d) => uptoBulk d + 1
 end
def uptoSmall : (H : Type) → List (DataW H) → Bool := fun _ ds => decide (uptoBulkAll ds ≤ 1048576)
def OpenSpec.upto (s : _root_.Go.ChangeSpec) : _root_.Go.OpenSpec := { _root_.Go.OpenSpec.ofChange s with cond := some uptoSmall }

/-- 'laws.FnExactSendHops', WHERE WHAT IT READS IS OF BULK AT MOST 1048576: true; the input reads as it did. -/
def fnExactSendHopsUptoRow : OpenClaim := { program := "ytbllmgdnhjdphab", sum := "bff75992ef80720836092adc9c239d89a625195feebbfa477184c7a6b20fc7f7", func := "loop.example/spreadspectrum/laws.FnExactSendHops", spec := "fnExactSendHops", unfollowed := true, recurses := true, apart := false, narrowed := true }
def FnExactSendHopsUptoSaid : Prop := fnExactSendHopsUptoRow.holds Try.pinned (OpenSpec.upto fnExactSendHopsSpec)

/-- 'laws.FnExactSyncHops', WHERE WHAT IT READS IS OF BULK AT MOST 1048576: true; the input reads as it did. -/
def fnExactSyncHopsUptoRow : OpenClaim := { program := "ytbllmgdnhjdphab", sum := "bff75992ef80720836092adc9c239d89a625195feebbfa477184c7a6b20fc7f7", func := "loop.example/spreadspectrum/laws.FnExactSyncHops", spec := "fnExactSyncHops", apart := false, narrowed := true }
def FnExactSyncHopsUptoSaid : Prop := fnExactSyncHopsUptoRow.holds Try.pinned (OpenSpec.upto fnExactSyncHopsSpec)

/-- 'laws.FnHopSequence', WHERE WHAT IT READS IS OF BULK AT MOST 1048576: true; the input reads as it did. -/
def fnHopSequenceUptoRow : OpenClaim := { program := "ytbllmgdnhjdphab", sum := "bff75992ef80720836092adc9c239d89a625195feebbfa477184c7a6b20fc7f7", func := "loop.example/spreadspectrum/laws.FnHopSequence", spec := "fnHopSequence", apart := false, narrowed := true }
def FnHopSequenceUptoSaid : Prop := fnHopSequenceUptoRow.holds Try.pinned (OpenSpec.upto fnHopSequenceSpec)

/-- 'laws.FnLinearMeet', WHERE WHAT IT READS IS OF BULK AT MOST 1048576: true; the input reads as it did. -/
def fnLinearMeetUptoRow : OpenClaim := { program := "ytbllmgdnhjdphab", sum := "bff75992ef80720836092adc9c239d89a625195feebbfa477184c7a6b20fc7f7", func := "loop.example/spreadspectrum/laws.FnLinearMeet", spec := "fnLinearMeet", apart := false, narrowed := true }
def FnLinearMeetUptoSaid : Prop := fnLinearMeetUptoRow.holds Try.pinned (OpenSpec.upto fnLinearMeetSpec)

/-- 'laws.FnShiftHops', WHERE WHAT IT READS IS OF BULK AT MOST 1048576: true; the input reads as it did. -/
def fnShiftHopsUptoRow : OpenClaim := { program := "ytbllmgdnhjdphab", sum := "bff75992ef80720836092adc9c239d89a625195feebbfa477184c7a6b20fc7f7", func := "loop.example/spreadspectrum/laws.FnShiftHops", spec := "fnShiftHops", apart := false, narrowed := true }
def FnShiftHopsUptoSaid : Prop := fnShiftHopsUptoRow.holds Try.pinned (OpenSpec.upto fnShiftHopsSpec)

/-- 'laws.FnMoveHops', WHERE WHAT IT READS IS OF BULK AT MOST 1048576: true; the input reads as it did. -/
def fnMoveHopsUptoRow : OpenClaim := { program := "ytbllmgdnhjdphab", sum := "bff75992ef80720836092adc9c239d89a625195feebbfa477184c7a6b20fc7f7", func := "loop.example/spreadspectrum/laws.FnMoveHops", spec := "fnMoveHops", apart := false, narrowed := true }
def FnMoveHopsUptoSaid : Prop := fnMoveHopsUptoRow.holds Try.pinned (OpenSpec.upto fnMoveHopsSpec)

/-- 'laws.FnCollisions', WHERE WHAT IT READS IS OF BULK AT MOST 1048576: true; the input reads as it did. -/
def fnCollisionsUptoRow : OpenClaim := { program := "ytbllmgdnhjdphab", sum := "bff75992ef80720836092adc9c239d89a625195feebbfa477184c7a6b20fc7f7", func := "loop.example/spreadspectrum/laws.FnCollisions", spec := "fnCollisions", apart := false, narrowed := true }
def FnCollisionsUptoSaid : Prop := fnCollisionsUptoRow.holds Try.pinned (OpenSpec.upto fnCollisionsSpec)

end Rows
end Go.Proofs.Ytbllmgdnhjdphab
