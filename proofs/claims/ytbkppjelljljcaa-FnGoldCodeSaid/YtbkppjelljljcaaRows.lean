/-
  No cell of these rows narrows 'for every input' (looked for: loops, veiled, ifaces, maps, wideKeys, modest, calm, conditions, laid).
  DERIVED. THE GIVEN ROWS OF THIS SEAT. 3 by the template 'for every input the law returns true; each argument reads behind the call as it read before'; 0 by the template 'total and deterministic' (their statements: YtbkppjelljljcaaTotals.lean).
  GIVEN WITH THE SEED: the statements are not yours to turn. If you find one false, say at which input.
  Laid BY PROGRAM, IN A SANDBOX (cutbox-rows.mjs): the forced cells as the released guide's own fill.sh prints them over the translation 8887d8b3ca0dd5f1… (all of the seat's roots in one cut). By AI agents, Wed Nov 11 2026. No macro, syntax, notation, axiom, sorry.
-/
import Derived.Test.YtbkppjelljljcaaChecked
import GoSem.Claim
import GoSem.ClaimJoined
import GoSem.ClaimMapViews
import Derived.JoinedTies
import Derived.KernelRfl
namespace Go.Proofs.Ytbkppjelljljcaa
/- THE CELL 'sum', in the pinned program and in every row, IS THE sha256 OF THE DUMP (.gsa) THAT YtbkppjelljljcaaProg.lean LOADS. Nothing in Lean hashes anything: it is a label: what it is worth is what the hold of that sum in a sandbox is worth. -/
noncomputable def Try.pinned : Pinned := { name := "ytbkppjelljljcaa", sum := "8887d8b3ca0dd5f135ef666163af35152451eaaacae87c23baf34a4f29d30b88", checked := Try.checked }
namespace Rows
def none {H : Type} : Left H := { results := [], args := [] }

/-- 'laws.FnExactAddRegisters': WHATEVER THE INPUT: true; the input reads as it did. -/
def fnExactAddRegistersSpec : ChangeSpec := { name := "fnExactAddRegisters", fn := fun _ => fun
  | [d1, d2] => { results := [.lit (.bool true)], args := [d1, d2] }
  | _ => none }
def fnExactAddRegistersRow : OpenClaim := { program := "ytbkppjelljljcaa", sum := "8887d8b3ca0dd5f135ef666163af35152451eaaacae87c23baf34a4f29d30b88", func := "loop.example/spreadspectrum/laws.FnExactAddRegisters", spec := "fnExactAddRegisters", apart := false }
def FnExactAddRegistersSaid : Prop := fnExactAddRegistersRow.holds Try.pinned (OpenSpec.ofChange fnExactAddRegistersSpec)

/-- ITS FALSE NEIGHBOUR: 'it returns false'. Refute it at one input. -/
def fnExactAddRegistersWrong : ChangeSpec := { name := "fnExactAddRegisters", fn := fun _ => fun
  | [d1, d2] => { results := [.lit (.bool false)], args := [d1, d2] }
  | _ => none }
def FnExactAddRegistersWrongFalsely : Prop := fnExactAddRegistersRow.holds Try.pinned (OpenSpec.ofChange fnExactAddRegistersWrong)

/-- 'laws.FnGoldCode': WHATEVER THE INPUT: true; the input reads as it did. -/
def fnGoldCodeSpec : ChangeSpec := { name := "fnGoldCode", fn := fun _ => fun
  | [d] => { results := [.lit (.bool true)], args := [d] }
  | _ => none }
def fnGoldCodeRow : OpenClaim := { program := "ytbkppjelljljcaa", sum := "8887d8b3ca0dd5f135ef666163af35152451eaaacae87c23baf34a4f29d30b88", func := "loop.example/spreadspectrum/laws.FnGoldCode", spec := "fnGoldCode", inPlace := ["internal/abi.NoEscape"], unfollowed := true, recurses := true, apart := false }
def FnGoldCodeSaid : Prop := fnGoldCodeRow.holds Try.pinned (OpenSpec.ofChange fnGoldCodeSpec)

/-- ITS FALSE NEIGHBOUR: 'it returns false'. Refute it at one input. -/
def fnGoldCodeWrong : ChangeSpec := { name := "fnGoldCode", fn := fun _ => fun
  | [d] => { results := [.lit (.bool false)], args := [d] }
  | _ => none }
def FnGoldCodeWrongFalsely : Prop := fnGoldCodeRow.holds Try.pinned (OpenSpec.ofChange fnGoldCodeWrong)

/-- 'laws.FnReverse': WHATEVER THE INPUT: true; the input reads as it did. -/
def fnReverseSpec : ChangeSpec := { name := "fnReverse", fn := fun _ => fun
  | [d1, d2] => { results := [.lit (.bool true)], args := [d1, d2] }
  | _ => none }
def fnReverseRow : OpenClaim := { program := "ytbkppjelljljcaa", sum := "8887d8b3ca0dd5f135ef666163af35152451eaaacae87c23baf34a4f29d30b88", func := "loop.example/spreadspectrum/laws.FnReverse", spec := "fnReverse", inPlace := ["internal/abi.NoEscape"], unfollowed := true, recurses := true, apart := false }
def FnReverseSaid : Prop := fnReverseRow.holds Try.pinned (OpenSpec.ofChange fnReverseSpec)

/-- ITS FALSE NEIGHBOUR: 'it returns false'. Refute it at one input. -/
def fnReverseWrong : ChangeSpec := { name := "fnReverse", fn := fun _ => fun
  | [d1, d2] => { results := [.lit (.bool false)], args := [d1, d2] }
  | _ => none }
def FnReverseWrongFalsely : Prop := fnReverseRow.holds Try.pinned (OpenSpec.ofChange fnReverseWrong)

/- THE SECOND FORM. 'bulk': how many values and letters a reading holds, each counted each time it is reached (what is shared counts as often as it is met; a slice's spare places count too). A statement '..UptoSaid' is the law's where the arguments, and the package variables that the reading takes, are together of bulk at most 1048576: NARROWER than '..Said'. Prove '..Said' where nothing that the law and all that it calls make is longer than what came in: it says more and counts as full. Else prove '..UptoSaid'. A law counts once. -/
mutual
def uptoBulk {H : Type} : DataW H → Nat
  | .lit (.string bytes) => bytes.length + 1
  | .lit _ => 1
  | .nil => 1
  | .ptr d => uptoBulk d + 1
  | .slice elems spare => uptoBulkAll elems + uptoBulkAll spare + 1
  | .agg parts => uptoBulkAll parts + 1
  | .iface _ d => uptoBulk d + 1
  | .map entries => uptoBulkEntries entries + 1
  | .held _ => 1
def uptoBulkAll {H : Type} : List (DataW H) → Nat
  | [] => 0
  | d :: r => uptoBulk d + uptoBulkAll r
def uptoBulkEntries {H : Type} : List (Lit × DataW H) → Nat
  | [] => 0
  | x :: r => uptoBulkEntry x + uptoBulkEntries r
def uptoBulkEntry {H : Type} : Lit × DataW H → Nat
  | (.string bytes, d) => bytes.length + uptoBulk d + 1
  | (_, d) => uptoBulk d + 1
 end
def uptoSmall : (H : Type) → List (DataW H) → Bool := fun _ ds => decide (uptoBulkAll ds ≤ 1048576)
def OpenSpec.upto (s : _root_.Go.ChangeSpec) : _root_.Go.OpenSpec := { _root_.Go.OpenSpec.ofChange s with cond := some uptoSmall }

/-- 'laws.FnExactAddRegisters', WHERE WHAT IT READS IS OF BULK AT MOST 1048576: true; the input reads as it did. -/
def fnExactAddRegistersUptoRow : OpenClaim := { program := "ytbkppjelljljcaa", sum := "8887d8b3ca0dd5f135ef666163af35152451eaaacae87c23baf34a4f29d30b88", func := "loop.example/spreadspectrum/laws.FnExactAddRegisters", spec := "fnExactAddRegisters", apart := false, narrowed := true }
def FnExactAddRegistersUptoSaid : Prop := fnExactAddRegistersUptoRow.holds Try.pinned (OpenSpec.upto fnExactAddRegistersSpec)

/-- 'laws.FnGoldCode', WHERE WHAT IT READS IS OF BULK AT MOST 1048576: true; the input reads as it did. -/
def fnGoldCodeUptoRow : OpenClaim := { program := "ytbkppjelljljcaa", sum := "8887d8b3ca0dd5f135ef666163af35152451eaaacae87c23baf34a4f29d30b88", func := "loop.example/spreadspectrum/laws.FnGoldCode", spec := "fnGoldCode", inPlace := ["internal/abi.NoEscape"], unfollowed := true, recurses := true, apart := false, narrowed := true }
def FnGoldCodeUptoSaid : Prop := fnGoldCodeUptoRow.holds Try.pinned (OpenSpec.upto fnGoldCodeSpec)

/-- 'laws.FnReverse', WHERE WHAT IT READS IS OF BULK AT MOST 1048576: true; the input reads as it did. -/
def fnReverseUptoRow : OpenClaim := { program := "ytbkppjelljljcaa", sum := "8887d8b3ca0dd5f135ef666163af35152451eaaacae87c23baf34a4f29d30b88", func := "loop.example/spreadspectrum/laws.FnReverse", spec := "fnReverse", inPlace := ["internal/abi.NoEscape"], unfollowed := true, recurses := true, apart := false, narrowed := true }
def FnReverseUptoSaid : Prop := fnReverseUptoRow.holds Try.pinned (OpenSpec.upto fnReverseSpec)

end Rows
end Go.Proofs.Ytbkppjelljljcaa
