/-
  No cell of these rows narrows 'for every input' (looked for: loops, veiled, ifaces, maps, wideKeys, modest, calm, conditions, laid).
  DERIVED. THE GIVEN ROWS OF THIS SEAT. 5 by the template 'for every input the law returns true; each argument reads behind the call as it read before'; 0 by the template 'total and deterministic' (their statements: YtbllmgdnhjdphacTotals.lean).
  GIVEN WITH THE SEED: the statements are not yours to turn. If you find one false, say at which input.
  Laid BY PROGRAM, IN A SANDBOX (cutbox-rows.mjs): the forced cells as the released guide's own fill.sh prints them over the translation 26a2154c953cbcc0… (all of the seat's roots in one cut). By AI agents, Wed Nov 11 2026. No macro, syntax, notation, axiom, sorry.
-/
import Derived.Test.YtbllmgdnhjdphacChecked
import GoSem.Claim
import GoSem.ClaimJoined
import GoSem.ClaimMapViews
import Derived.JoinedTies
import Derived.KernelRfl
namespace Go.Proofs.Ytbllmgdnhjdphac
/- THE CELL 'sum', in the pinned program and in every row, IS THE sha256 OF THE DUMP (.gsa) THAT YtbllmgdnhjdphacProg.lean LOADS. Nothing in Lean hashes anything: it is a label: what it is worth is what the hold of that sum in a sandbox is worth. -/
noncomputable def Try.pinned : Pinned := { name := "ytbllmgdnhjdphac", sum := "26a2154c953cbcc0075a582c2fa1f4e5987e9fa4feaaf7f101afa398762b6877", checked := Try.checked }
namespace Rows
def none {H : Type} : Left H := { results := [], args := [] }

/-- 'laws.FnWorstCollisions': WHATEVER THE INPUT: true; the input reads as it did. -/
def fnWorstCollisionsSpec : ChangeSpec := { name := "fnWorstCollisions", fn := fun _ => fun
  | [d] => { results := [.lit (.bool true)], args := [d] }
  | _ => none }
def fnWorstCollisionsRow : OpenClaim := { program := "ytbllmgdnhjdphac", sum := "26a2154c953cbcc0075a582c2fa1f4e5987e9fa4feaaf7f101afa398762b6877", func := "loop.example/spreadspectrum/laws.FnWorstCollisions", spec := "fnWorstCollisions", apart := false }
def FnWorstCollisionsSaid : Prop := fnWorstCollisionsRow.holds Try.pinned (OpenSpec.ofChange fnWorstCollisionsSpec)

/-- ITS FALSE NEIGHBOUR: 'it returns false'. Refute it at one input. -/
def fnWorstCollisionsWrong : ChangeSpec := { name := "fnWorstCollisions", fn := fun _ => fun
  | [d] => { results := [.lit (.bool false)], args := [d] }
  | _ => none }
def FnWorstCollisionsWrongFalsely : Prop := fnWorstCollisionsRow.holds Try.pinned (OpenSpec.ofChange fnWorstCollisionsWrong)

/-- 'laws.FnLoad': WHATEVER THE INPUT: true; the input reads as it did. -/
def fnLoadSpec : ChangeSpec := { name := "fnLoad", fn := fun _ => fun
  | [d] => { results := [.lit (.bool true)], args := [d] }
  | _ => none }
def fnLoadRow : OpenClaim := { program := "ytbllmgdnhjdphac", sum := "26a2154c953cbcc0075a582c2fa1f4e5987e9fa4feaaf7f101afa398762b6877", func := "loop.example/spreadspectrum/laws.FnLoad", spec := "fnLoad", apart := false }
def FnLoadSaid : Prop := fnLoadRow.holds Try.pinned (OpenSpec.ofChange fnLoadSpec)

/-- ITS FALSE NEIGHBOUR: 'it returns false'. Refute it at one input. -/
def fnLoadWrong : ChangeSpec := { name := "fnLoad", fn := fun _ => fun
  | [d] => { results := [.lit (.bool false)], args := [d] }
  | _ => none }
def FnLoadWrongFalsely : Prop := fnLoadRow.holds Try.pinned (OpenSpec.ofChange fnLoadWrong)

/-- 'laws.FnJammed': WHATEVER THE INPUT: true; the input reads as it did. -/
def fnJammedSpec : ChangeSpec := { name := "fnJammed", fn := fun _ => fun
  | [d] => { results := [.lit (.bool true)], args := [d] }
  | _ => none }
def fnJammedRow : OpenClaim := { program := "ytbllmgdnhjdphac", sum := "26a2154c953cbcc0075a582c2fa1f4e5987e9fa4feaaf7f101afa398762b6877", func := "loop.example/spreadspectrum/laws.FnJammed", spec := "fnJammed", apart := false }
def FnJammedSaid : Prop := fnJammedRow.holds Try.pinned (OpenSpec.ofChange fnJammedSpec)

/-- ITS FALSE NEIGHBOUR: 'it returns false'. Refute it at one input. -/
def fnJammedWrong : ChangeSpec := { name := "fnJammed", fn := fun _ => fun
  | [d] => { results := [.lit (.bool false)], args := [d] }
  | _ => none }
def FnJammedWrongFalsely : Prop := fnJammedRow.holds Try.pinned (OpenSpec.ofChange fnJammedWrong)

/-- 'laws.FnRemap': WHATEVER THE INPUT: true; the input reads as it did. -/
def fnRemapSpec : ChangeSpec := { name := "fnRemap", fn := fun _ => fun
  | [d] => { results := [.lit (.bool true)], args := [d] }
  | _ => none }
def fnRemapRow : OpenClaim := { program := "ytbllmgdnhjdphac", sum := "26a2154c953cbcc0075a582c2fa1f4e5987e9fa4feaaf7f101afa398762b6877", func := "loop.example/spreadspectrum/laws.FnRemap", spec := "fnRemap", apart := false }
def FnRemapSaid : Prop := fnRemapRow.holds Try.pinned (OpenSpec.ofChange fnRemapSpec)

/-- ITS FALSE NEIGHBOUR: 'it returns false'. Refute it at one input. -/
def fnRemapWrong : ChangeSpec := { name := "fnRemap", fn := fun _ => fun
  | [d] => { results := [.lit (.bool false)], args := [d] }
  | _ => none }
def FnRemapWrongFalsely : Prop := fnRemapRow.holds Try.pinned (OpenSpec.ofChange fnRemapWrong)

/-- 'laws.FnSync': WHATEVER THE INPUT: true; the input reads as it did. -/
def fnSyncSpec : ChangeSpec := { name := "fnSync", fn := fun _ => fun
  | [d] => { results := [.lit (.bool true)], args := [d] }
  | _ => none }
def fnSyncRow : OpenClaim := { program := "ytbllmgdnhjdphac", sum := "26a2154c953cbcc0075a582c2fa1f4e5987e9fa4feaaf7f101afa398762b6877", func := "loop.example/spreadspectrum/laws.FnSync", spec := "fnSync", apart := false }
def FnSyncSaid : Prop := fnSyncRow.holds Try.pinned (OpenSpec.ofChange fnSyncSpec)

/-- ITS FALSE NEIGHBOUR: 'it returns false'. Refute it at one input. -/
def fnSyncWrong : ChangeSpec := { name := "fnSync", fn := fun _ => fun
  | [d] => { results := [.lit (.bool false)], args := [d] }
  | _ => none }
def FnSyncWrongFalsely : Prop := fnSyncRow.holds Try.pinned (OpenSpec.ofChange fnSyncWrong)

/- THE SECOND FORM. 'bulk': how many values and letters a reading holds, each counted each time it is reached (what is shared counts as often as it is met; a slice's spare places count too). A statement '..UptoSaid' is the law's where the arguments, and the package variables that the reading takes, are together of bulk at most 1048576: NARROWER than '..Said'. Prove '..Said' where nothing that the law and all that it calls make is longer than what came in: it says more and counts as full. Else prove '..UptoSaid'. A law counts once. -/
mutual
def uptoBulk {H : Type} : DataW H → Nat
  | .lit (.string bytes) => bytes.length + 1
  | .lit _ => 1
  | .nil => 1
  | .ptr d => uptoBulk d + 1
  | .slice elems spare => uptoBulkAll elems + uptoBulkAll spare + 1
  | .agg parts => uptoBulkAll parts + 1
  | .iface _ d => uptoBulk d + 1
  | .map entries => uptoBulkEntries entries + 1
  | .held _ => 1
def uptoBulkAll {H : Type} : List (DataW H) → Nat
  | [] => 0
  | d :: r => uptoBulk d + uptoBulkAll r
def uptoBulkEntries {H : Type} : List (Lit × DataW H) → Nat
  | [] => 0
  | x :: r => uptoBulkEntry x + uptoBulkEntries r
def uptoBulkEntry {H : Type} : Lit × DataW H → Nat
  | (.string bytes, d) => bytes.length + uptoBulk d + 1
  | (_, d) => uptoBulk d + 1
 end
def uptoSmall : (H : Type) → List (DataW H) → Bool := fun _ ds => decide (uptoBulkAll ds ≤ 1048576)
def OpenSpec.upto (s : _root_.Go.ChangeSpec) : _root_.Go.OpenSpec := { _root_.Go.OpenSpec.ofChange s with cond := some uptoSmall }

/-- 'laws.FnWorstCollisions', WHERE WHAT IT READS IS OF BULK AT MOST 1048576: true; the input reads as it did. -/
def fnWorstCollisionsUptoRow : OpenClaim := { program := "ytbllmgdnhjdphac", sum := "26a2154c953cbcc0075a582c2fa1f4e5987e9fa4feaaf7f101afa398762b6877", func := "loop.example/spreadspectrum/laws.FnWorstCollisions", spec := "fnWorstCollisions", apart := false, narrowed := true }
def FnWorstCollisionsUptoSaid : Prop := fnWorstCollisionsUptoRow.holds Try.pinned (OpenSpec.upto fnWorstCollisionsSpec)

/-- 'laws.FnLoad', WHERE WHAT IT READS IS OF BULK AT MOST 1048576: true; the input reads as it did. -/
def fnLoadUptoRow : OpenClaim := { program := "ytbllmgdnhjdphac", sum := "26a2154c953cbcc0075a582c2fa1f4e5987e9fa4feaaf7f101afa398762b6877", func := "loop.example/spreadspectrum/laws.FnLoad", spec := "fnLoad", apart := false, narrowed := true }
def FnLoadUptoSaid : Prop := fnLoadUptoRow.holds Try.pinned (OpenSpec.upto fnLoadSpec)

/-- 'laws.FnJammed', WHERE WHAT IT READS IS OF BULK AT MOST 1048576: true; the input reads as it did. -/
def fnJammedUptoRow : OpenClaim := { program := "ytbllmgdnhjdphac", sum := "26a2154c953cbcc0075a582c2fa1f4e5987e9fa4feaaf7f101afa398762b6877", func := "loop.example/spreadspectrum/laws.FnJammed", spec := "fnJammed", apart := false, narrowed := true }
def FnJammedUptoSaid : Prop := fnJammedUptoRow.holds Try.pinned (OpenSpec.upto fnJammedSpec)

/-- 'laws.FnRemap', WHERE WHAT IT READS IS OF BULK AT MOST 1048576: true; the input reads as it did. -/
def fnRemapUptoRow : OpenClaim := { program := "ytbllmgdnhjdphac", sum := "26a2154c953cbcc0075a582c2fa1f4e5987e9fa4feaaf7f101afa398762b6877", func := "loop.example/spreadspectrum/laws.FnRemap", spec := "fnRemap", apart := false, narrowed := true }
def FnRemapUptoSaid : Prop := fnRemapUptoRow.holds Try.pinned (OpenSpec.upto fnRemapSpec)

/-- 'laws.FnSync', WHERE WHAT IT READS IS OF BULK AT MOST 1048576: true; the input reads as it did. -/
def fnSyncUptoRow : OpenClaim := { program := "ytbllmgdnhjdphac", sum := "26a2154c953cbcc0075a582c2fa1f4e5987e9fa4feaaf7f101afa398762b6877", func := "loop.example/spreadspectrum/laws.FnSync", spec := "fnSync", apart := false, narrowed := true }
def FnSyncUptoSaid : Prop := fnSyncUptoRow.holds Try.pinned (OpenSpec.upto fnSyncSpec)

end Rows
end Go.Proofs.Ytbllmgdnhjdphac
