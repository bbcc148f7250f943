/-
  No cell of these rows narrows 'for every input' (looked for: loops, veiled, ifaces, maps, wideKeys, modest, calm, conditions, laid).
  DERIVED. THE GIVEN ROWS OF THIS SEAT. 10 by the template 'for every input the law returns true; each argument reads behind the call as it read before'; 0 by the template 'total and deterministic' (their statements: YtbllmgdnhjdphaaTotals.lean).
  GIVEN WITH THE SEED: the statements are not yours to turn. If you find one false, say at which input.
  Laid BY PROGRAM, IN A SANDBOX (cutbox-rows.mjs): the forced cells as the released guide's own fill.sh prints them over the translation e42b14b29da4ea1f… (all of the seat's roots in one cut). By AI agents, Wed Nov 11 2026. No macro, syntax, notation, axiom, sorry.
-/
import Derived.Test.YtbllmgdnhjdphaaChecked
import GoSem.Claim
import GoSem.ClaimJoined
import GoSem.ClaimMapViews
import Derived.JoinedTies
import Derived.KernelRfl
namespace Go.Proofs.Ytbllmgdnhjdphaa
/- THE CELL 'sum', in the pinned program and in every row, IS THE sha256 OF THE DUMP (.gsa) THAT YtbllmgdnhjdphaaProg.lean LOADS. Nothing in Lean hashes anything: it is a label: what it is worth is what the hold of that sum in a sandbox is worth. -/
noncomputable def Try.pinned : Pinned := { name := "ytbllmgdnhjdphaa", sum := "e42b14b29da4ea1feaa085534d9d96d9bdd6208c13ef3a2b280167fe3a8a4680", checked := Try.checked }
namespace Rows
def none {H : Type} : Left H := { results := [], args := [] }

/-- 'laws.FnExactHopsValid': WHATEVER THE INPUT: true; the input reads as it did. -/
def fnExactHopsValidSpec : ChangeSpec := { name := "fnExactHopsValid", fn := fun _ => fun
  | [d1, d2] => { results := [.lit (.bool true)], args := [d1, d2] }
  | _ => none }
def fnExactHopsValidRow : OpenClaim := { program := "ytbllmgdnhjdphaa", sum := "e42b14b29da4ea1feaa085534d9d96d9bdd6208c13ef3a2b280167fe3a8a4680", func := "loop.example/spreadspectrum/laws.FnExactHopsValid", spec := "fnExactHopsValid", apart := false }
def FnExactHopsValidSaid : Prop := fnExactHopsValidRow.holds Try.pinned (OpenSpec.ofChange fnExactHopsValidSpec)

/-- ITS FALSE NEIGHBOUR: 'it returns false'. Refute it at one input. -/
def fnExactHopsValidWrong : ChangeSpec := { name := "fnExactHopsValid", fn := fun _ => fun
  | [d1, d2] => { results := [.lit (.bool false)], args := [d1, d2] }
  | _ => none }
def FnExactHopsValidWrongFalsely : Prop := fnExactHopsValidRow.holds Try.pinned (OpenSpec.ofChange fnExactHopsValidWrong)

/-- 'laws.FnExactLinearHops': WHATEVER THE INPUT: true; the input reads as it did. -/
def fnExactLinearHopsSpec : ChangeSpec := { name := "fnExactLinearHops", fn := fun _ => fun
  | [d1, d2, d3] => { results := [.lit (.bool true)], args := [d1, d2, d3] }
  | _ => none }
def fnExactLinearHopsRow : OpenClaim := { program := "ytbllmgdnhjdphaa", sum := "e42b14b29da4ea1feaa085534d9d96d9bdd6208c13ef3a2b280167fe3a8a4680", func := "loop.example/spreadspectrum/laws.FnExactLinearHops", spec := "fnExactLinearHops", apart := false }
def FnExactLinearHopsSaid : Prop := fnExactLinearHopsRow.holds Try.pinned (OpenSpec.ofChange fnExactLinearHopsSpec)

/-- ITS FALSE NEIGHBOUR: 'it returns false'. Refute it at one input. -/
def fnExactLinearHopsWrong : ChangeSpec := { name := "fnExactLinearHops", fn := fun _ => fun
  | [d1, d2, d3] => { results := [.lit (.bool false)], args := [d1, d2, d3] }
  | _ => none }
def FnExactLinearHopsWrongFalsely : Prop := fnExactLinearHopsRow.holds Try.pinned (OpenSpec.ofChange fnExactLinearHopsWrong)

/-- 'laws.FnExactMoveHops': WHATEVER THE INPUT: true; the input reads as it did. -/
def fnExactMoveHopsSpec : ChangeSpec := { name := "fnExactMoveHops", fn := fun _ => fun
  | [d1, d2, d3] => { results := [.lit (.bool true)], args := [d1, d2, d3] }
  | _ => none }
def fnExactMoveHopsRow : OpenClaim := { program := "ytbllmgdnhjdphaa", sum := "e42b14b29da4ea1feaa085534d9d96d9bdd6208c13ef3a2b280167fe3a8a4680", func := "loop.example/spreadspectrum/laws.FnExactMoveHops", spec := "fnExactMoveHops", apart := false }
def FnExactMoveHopsSaid : Prop := fnExactMoveHopsRow.holds Try.pinned (OpenSpec.ofChange fnExactMoveHopsSpec)

/-- ITS FALSE NEIGHBOUR: 'it returns false'. Refute it at one input. -/
def fnExactMoveHopsWrong : ChangeSpec := { name := "fnExactMoveHops", fn := fun _ => fun
  | [d1, d2, d3] => { results := [.lit (.bool false)], args := [d1, d2, d3] }
  | _ => none }
def FnExactMoveHopsWrongFalsely : Prop := fnExactMoveHopsRow.holds Try.pinned (OpenSpec.ofChange fnExactMoveHopsWrong)

/-- 'laws.FnExactLoadOf': WHATEVER THE INPUT: true; the input reads as it did. -/
def fnExactLoadOfSpec : ChangeSpec := { name := "fnExactLoadOf", fn := fun _ => fun
  | [d1, d2] => { results := [.lit (.bool true)], args := [d1, d2] }
  | _ => none }
def fnExactLoadOfRow : OpenClaim := { program := "ytbllmgdnhjdphaa", sum := "e42b14b29da4ea1feaa085534d9d96d9bdd6208c13ef3a2b280167fe3a8a4680", func := "loop.example/spreadspectrum/laws.FnExactLoadOf", spec := "fnExactLoadOf", apart := false }
def FnExactLoadOfSaid : Prop := fnExactLoadOfRow.holds Try.pinned (OpenSpec.ofChange fnExactLoadOfSpec)

/-- ITS FALSE NEIGHBOUR: 'it returns false'. Refute it at one input. -/
def fnExactLoadOfWrong : ChangeSpec := { name := "fnExactLoadOf", fn := fun _ => fun
  | [d1, d2] => { results := [.lit (.bool false)], args := [d1, d2] }
  | _ => none }
def FnExactLoadOfWrongFalsely : Prop := fnExactLoadOfRow.holds Try.pinned (OpenSpec.ofChange fnExactLoadOfWrong)

/-- 'laws.FnExactHopSequence': WHATEVER THE INPUT: true; the input reads as it did. -/
def fnExactHopSequenceSpec : ChangeSpec := { name := "fnExactHopSequence", fn := fun _ => fun
  | [d1, d2, d3] => { results := [.lit (.bool true)], args := [d1, d2, d3] }
  | _ => none }
def fnExactHopSequenceRow : OpenClaim := { program := "ytbllmgdnhjdphaa", sum := "e42b14b29da4ea1feaa085534d9d96d9bdd6208c13ef3a2b280167fe3a8a4680", func := "loop.example/spreadspectrum/laws.FnExactHopSequence", spec := "fnExactHopSequence", apart := false }
def FnExactHopSequenceSaid : Prop := fnExactHopSequenceRow.holds Try.pinned (OpenSpec.ofChange fnExactHopSequenceSpec)

/-- ITS FALSE NEIGHBOUR: 'it returns false'. Refute it at one input. -/
def fnExactHopSequenceWrong : ChangeSpec := { name := "fnExactHopSequence", fn := fun _ => fun
  | [d1, d2, d3] => { results := [.lit (.bool false)], args := [d1, d2, d3] }
  | _ => none }
def FnExactHopSequenceWrongFalsely : Prop := fnExactHopSequenceRow.holds Try.pinned (OpenSpec.ofChange fnExactHopSequenceWrong)

/-- 'laws.FnExactShiftHops': WHATEVER THE INPUT: true; the input reads as it did. -/
def fnExactShiftHopsSpec : ChangeSpec := { name := "fnExactShiftHops", fn := fun _ => fun
  | [d1, d2] => { results := [.lit (.bool true)], args := [d1, d2] }
  | _ => none }
def fnExactShiftHopsRow : OpenClaim := { program := "ytbllmgdnhjdphaa", sum := "e42b14b29da4ea1feaa085534d9d96d9bdd6208c13ef3a2b280167fe3a8a4680", func := "loop.example/spreadspectrum/laws.FnExactShiftHops", spec := "fnExactShiftHops", apart := false }
def FnExactShiftHopsSaid : Prop := fnExactShiftHopsRow.holds Try.pinned (OpenSpec.ofChange fnExactShiftHopsSpec)

/-- ITS FALSE NEIGHBOUR: 'it returns false'. Refute it at one input. -/
def fnExactShiftHopsWrong : ChangeSpec := { name := "fnExactShiftHops", fn := fun _ => fun
  | [d1, d2] => { results := [.lit (.bool false)], args := [d1, d2] }
  | _ => none }
def FnExactShiftHopsWrongFalsely : Prop := fnExactShiftHopsRow.holds Try.pinned (OpenSpec.ofChange fnExactShiftHopsWrong)

/-- 'laws.FnExactHopCollisions': WHATEVER THE INPUT: true; the input reads as it did. -/
def fnExactHopCollisionsSpec : ChangeSpec := { name := "fnExactHopCollisions", fn := fun _ => fun
  | [d1, d2, d3] => { results := [.lit (.bool true)], args := [d1, d2, d3] }
  | _ => none }
def fnExactHopCollisionsRow : OpenClaim := { program := "ytbllmgdnhjdphaa", sum := "e42b14b29da4ea1feaa085534d9d96d9bdd6208c13ef3a2b280167fe3a8a4680", func := "loop.example/spreadspectrum/laws.FnExactHopCollisions", spec := "fnExactHopCollisions", apart := false }
def FnExactHopCollisionsSaid : Prop := fnExactHopCollisionsRow.holds Try.pinned (OpenSpec.ofChange fnExactHopCollisionsSpec)

/-- ITS FALSE NEIGHBOUR: 'it returns false'. Refute it at one input. -/
def fnExactHopCollisionsWrong : ChangeSpec := { name := "fnExactHopCollisions", fn := fun _ => fun
  | [d1, d2, d3] => { results := [.lit (.bool false)], args := [d1, d2, d3] }
  | _ => none }
def FnExactHopCollisionsWrongFalsely : Prop := fnExactHopCollisionsRow.holds Try.pinned (OpenSpec.ofChange fnExactHopCollisionsWrong)

/-- 'laws.FnExactWorstCollisions': WHATEVER THE INPUT: true; the input reads as it did. -/
def fnExactWorstCollisionsSpec : ChangeSpec := { name := "fnExactWorstCollisions", fn := fun _ => fun
  | [d] => { results := [.lit (.bool true)], args := [d] }
  | _ => none }
def fnExactWorstCollisionsRow : OpenClaim := { program := "ytbllmgdnhjdphaa", sum := "e42b14b29da4ea1feaa085534d9d96d9bdd6208c13ef3a2b280167fe3a8a4680", func := "loop.example/spreadspectrum/laws.FnExactWorstCollisions", spec := "fnExactWorstCollisions", apart := false }
def FnExactWorstCollisionsSaid : Prop := fnExactWorstCollisionsRow.holds Try.pinned (OpenSpec.ofChange fnExactWorstCollisionsSpec)

/-- ITS FALSE NEIGHBOUR: 'it returns false'. Refute it at one input. -/
def fnExactWorstCollisionsWrong : ChangeSpec := { name := "fnExactWorstCollisions", fn := fun _ => fun
  | [d] => { results := [.lit (.bool false)], args := [d] }
  | _ => none }
def FnExactWorstCollisionsWrongFalsely : Prop := fnExactWorstCollisionsRow.holds Try.pinned (OpenSpec.ofChange fnExactWorstCollisionsWrong)

/-- 'laws.FnExactJammedHops': WHATEVER THE INPUT: true; the input reads as it did. -/
def fnExactJammedHopsSpec : ChangeSpec := { name := "fnExactJammedHops", fn := fun _ => fun
  | [d1, d2] => { results := [.lit (.bool true)], args := [d1, d2] }
  | _ => none }
def fnExactJammedHopsRow : OpenClaim := { program := "ytbllmgdnhjdphaa", sum := "e42b14b29da4ea1feaa085534d9d96d9bdd6208c13ef3a2b280167fe3a8a4680", func := "loop.example/spreadspectrum/laws.FnExactJammedHops", spec := "fnExactJammedHops", apart := false }
def FnExactJammedHopsSaid : Prop := fnExactJammedHopsRow.holds Try.pinned (OpenSpec.ofChange fnExactJammedHopsSpec)

/-- ITS FALSE NEIGHBOUR: 'it returns false'. Refute it at one input. -/
def fnExactJammedHopsWrong : ChangeSpec := { name := "fnExactJammedHops", fn := fun _ => fun
  | [d1, d2] => { results := [.lit (.bool false)], args := [d1, d2] }
  | _ => none }
def FnExactJammedHopsWrongFalsely : Prop := fnExactJammedHopsRow.holds Try.pinned (OpenSpec.ofChange fnExactJammedHopsWrong)

/-- 'laws.FnExactRemapHops': WHATEVER THE INPUT: true; the input reads as it did. -/
def fnExactRemapHopsSpec : ChangeSpec := { name := "fnExactRemapHops", fn := fun _ => fun
  | [d1, d2, d3] => { results := [.lit (.bool true)], args := [d1, d2, d3] }
  | _ => none }
def fnExactRemapHopsRow : OpenClaim := { program := "ytbllmgdnhjdphaa", sum := "e42b14b29da4ea1feaa085534d9d96d9bdd6208c13ef3a2b280167fe3a8a4680", func := "loop.example/spreadspectrum/laws.FnExactRemapHops", spec := "fnExactRemapHops", apart := false }
def FnExactRemapHopsSaid : Prop := fnExactRemapHopsRow.holds Try.pinned (OpenSpec.ofChange fnExactRemapHopsSpec)

/-- ITS FALSE NEIGHBOUR: 'it returns false'. Refute it at one input. -/
def fnExactRemapHopsWrong : ChangeSpec := { name := "fnExactRemapHops", fn := fun _ => fun
  | [d1, d2, d3] => { results := [.lit (.bool false)], args := [d1, d2, d3] }
  | _ => none }
def FnExactRemapHopsWrongFalsely : Prop := fnExactRemapHopsRow.holds Try.pinned (OpenSpec.ofChange fnExactRemapHopsWrong)

/- THE SECOND FORM. 'bulk': how many values and letters a reading holds, each counted each time it is reached (what is shared counts as often as it is met; a slice's spare places count too). A statement '..UptoSaid' is the law's where the arguments, and the package variables that the reading takes, are together of bulk at most 1048576: NARROWER than '..Said'. Prove '..Said' where nothing that the law and all that it calls make is longer than what came in: it says more and counts as full. Else prove '..UptoSaid'. A law counts once. -/
mutual
def uptoBulk {H : Type} : DataW H → Nat
  | .lit (.string bytes) => bytes.length + 1
  | .lit _ => 1
  | .nil => 1
  | .ptr d => uptoBulk d + 1
  | .slice elems spare => uptoBulkAll elems + uptoBulkAll spare + 1
  | .agg parts => uptoBulkAll parts + 1
  | .iface _ d => uptoBulk d + 1
  | .map entries => uptoBulkEntries entries + 1
  | .held _ => 1
def uptoBulkAll {H : Type} : List (DataW H) → Nat
  | [] => 0
  | d :: r => uptoBulk d + uptoBulkAll r
def uptoBulkEntries {H : Type} : List (Lit × DataW H) → Nat
  | [] => 0
  | x :: r => uptoBulkEntry x + uptoBulkEntries r
def uptoBulkEntry {H : Type} : Lit × DataW H → Nat
  | (.string bytes, d) => bytes.length + uptoBulk d + 1
  | (_, d) => uptoBulk d + 1
 end
def uptoSmall : (H : Type) → List (DataW H) → Bool := fun _ ds => decide (uptoBulkAll ds ≤ 1048576)
def OpenSpec.upto (s : _root_.Go.ChangeSpec) : _root_.Go.OpenSpec := { _root_.Go.OpenSpec.ofChange s with cond := some uptoSmall }

/-- 'laws.FnExactHopsValid', WHERE WHAT IT READS IS OF BULK AT MOST 1048576: true; the input reads as it did. -/
def fnExactHopsValidUptoRow : OpenClaim := { program := "ytbllmgdnhjdphaa", sum := "e42b14b29da4ea1feaa085534d9d96d9bdd6208c13ef3a2b280167fe3a8a4680", func := "loop.example/spreadspectrum/laws.FnExactHopsValid", spec := "fnExactHopsValid", apart := false, narrowed := true }
def FnExactHopsValidUptoSaid : Prop := fnExactHopsValidUptoRow.holds Try.pinned (OpenSpec.upto fnExactHopsValidSpec)

/-- 'laws.FnExactLinearHops', WHERE WHAT IT READS IS OF BULK AT MOST 1048576: true; the input reads as it did. -/
def fnExactLinearHopsUptoRow : OpenClaim := { program := "ytbllmgdnhjdphaa", sum := "e42b14b29da4ea1feaa085534d9d96d9bdd6208c13ef3a2b280167fe3a8a4680", func := "loop.example/spreadspectrum/laws.FnExactLinearHops", spec := "fnExactLinearHops", apart := false, narrowed := true }
def FnExactLinearHopsUptoSaid : Prop := fnExactLinearHopsUptoRow.holds Try.pinned (OpenSpec.upto fnExactLinearHopsSpec)

/-- 'laws.FnExactMoveHops', WHERE WHAT IT READS IS OF BULK AT MOST 1048576: true; the input reads as it did. -/
def fnExactMoveHopsUptoRow : OpenClaim := { program := "ytbllmgdnhjdphaa", sum := "e42b14b29da4ea1feaa085534d9d96d9bdd6208c13ef3a2b280167fe3a8a4680", func := "loop.example/spreadspectrum/laws.FnExactMoveHops", spec := "fnExactMoveHops", apart := false, narrowed := true }
def FnExactMoveHopsUptoSaid : Prop := fnExactMoveHopsUptoRow.holds Try.pinned (OpenSpec.upto fnExactMoveHopsSpec)

/-- 'laws.FnExactLoadOf', WHERE WHAT IT READS IS OF BULK AT MOST 1048576: true; the input reads as it did. -/
def fnExactLoadOfUptoRow : OpenClaim := { program := "ytbllmgdnhjdphaa", sum := "e42b14b29da4ea1feaa085534d9d96d9bdd6208c13ef3a2b280167fe3a8a4680", func := "loop.example/spreadspectrum/laws.FnExactLoadOf", spec := "fnExactLoadOf", apart := false, narrowed := true }
def FnExactLoadOfUptoSaid : Prop := fnExactLoadOfUptoRow.holds Try.pinned (OpenSpec.upto fnExactLoadOfSpec)

/-- 'laws.FnExactHopSequence', WHERE WHAT IT READS IS OF BULK AT MOST 1048576: true; the input reads as it did. -/
def fnExactHopSequenceUptoRow : OpenClaim := { program := "ytbllmgdnhjdphaa", sum := "e42b14b29da4ea1feaa085534d9d96d9bdd6208c13ef3a2b280167fe3a8a4680", func := "loop.example/spreadspectrum/laws.FnExactHopSequence", spec := "fnExactHopSequence", apart := false, narrowed := true }
def FnExactHopSequenceUptoSaid : Prop := fnExactHopSequenceUptoRow.holds Try.pinned (OpenSpec.upto fnExactHopSequenceSpec)

/-- 'laws.FnExactShiftHops', WHERE WHAT IT READS IS OF BULK AT MOST 1048576: true; the input reads as it did. -/
def fnExactShiftHopsUptoRow : OpenClaim := { program := "ytbllmgdnhjdphaa", sum := "e42b14b29da4ea1feaa085534d9d96d9bdd6208c13ef3a2b280167fe3a8a4680", func := "loop.example/spreadspectrum/laws.FnExactShiftHops", spec := "fnExactShiftHops", apart := false, narrowed := true }
def FnExactShiftHopsUptoSaid : Prop := fnExactShiftHopsUptoRow.holds Try.pinned (OpenSpec.upto fnExactShiftHopsSpec)

/-- 'laws.FnExactHopCollisions', WHERE WHAT IT READS IS OF BULK AT MOST 1048576: true; the input reads as it did. -/
def fnExactHopCollisionsUptoRow : OpenClaim := { program := "ytbllmgdnhjdphaa", sum := "e42b14b29da4ea1feaa085534d9d96d9bdd6208c13ef3a2b280167fe3a8a4680", func := "loop.example/spreadspectrum/laws.FnExactHopCollisions", spec := "fnExactHopCollisions", apart := false, narrowed := true }
def FnExactHopCollisionsUptoSaid : Prop := fnExactHopCollisionsUptoRow.holds Try.pinned (OpenSpec.upto fnExactHopCollisionsSpec)

/-- 'laws.FnExactWorstCollisions', WHERE WHAT IT READS IS OF BULK AT MOST 1048576: true; the input reads as it did. -/
def fnExactWorstCollisionsUptoRow : OpenClaim := { program := "ytbllmgdnhjdphaa", sum := "e42b14b29da4ea1feaa085534d9d96d9bdd6208c13ef3a2b280167fe3a8a4680", func := "loop.example/spreadspectrum/laws.FnExactWorstCollisions", spec := "fnExactWorstCollisions", apart := false, narrowed := true }
def FnExactWorstCollisionsUptoSaid : Prop := fnExactWorstCollisionsUptoRow.holds Try.pinned (OpenSpec.upto fnExactWorstCollisionsSpec)

/-- 'laws.FnExactJammedHops', WHERE WHAT IT READS IS OF BULK AT MOST 1048576: true; the input reads as it did. -/
def fnExactJammedHopsUptoRow : OpenClaim := { program := "ytbllmgdnhjdphaa", sum := "e42b14b29da4ea1feaa085534d9d96d9bdd6208c13ef3a2b280167fe3a8a4680", func := "loop.example/spreadspectrum/laws.FnExactJammedHops", spec := "fnExactJammedHops", apart := false, narrowed := true }
def FnExactJammedHopsUptoSaid : Prop := fnExactJammedHopsUptoRow.holds Try.pinned (OpenSpec.upto fnExactJammedHopsSpec)

/-- 'laws.FnExactRemapHops', WHERE WHAT IT READS IS OF BULK AT MOST 1048576: true; the input reads as it did. -/
def fnExactRemapHopsUptoRow : OpenClaim := { program := "ytbllmgdnhjdphaa", sum := "e42b14b29da4ea1feaa085534d9d96d9bdd6208c13ef3a2b280167fe3a8a4680", func := "loop.example/spreadspectrum/laws.FnExactRemapHops", spec := "fnExactRemapHops", apart := false, narrowed := true }
def FnExactRemapHopsUptoSaid : Prop := fnExactRemapHopsUptoRow.holds Try.pinned (OpenSpec.upto fnExactRemapHopsSpec)

end Rows
end Go.Proofs.Ytbllmgdnhjdphaa
