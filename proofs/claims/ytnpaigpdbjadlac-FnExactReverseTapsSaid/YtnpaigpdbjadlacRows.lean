/-
  No cell of these rows narrows 'for every input' (looked for: loops, veiled, ifaces, maps, wideKeys, modest, calm, conditions, laid).
  DERIVED. THE GIVEN ROWS OF THIS SEAT. 5 by the template 'for every input the law returns true; each argument reads behind the call as it read before'; 0 by the template 'total and deterministic' (their statements: YtnpaigpdbjadlacTotals.lean).
  GIVEN WITH THE SEED: the statements are not yours to turn. If you find one false, say at which input.
  Laid BY PROGRAM, IN A SANDBOX (cutbox-rows.mjs): the forced cells as the released guide's own fill.sh prints them over the translation a6a4f0030f926f72… (all of the seat's roots in one cut). By AI agents, Wed Nov 11 2026. No macro, syntax, notation, axiom, sorry.
-/
import Derived.Test.YtnpaigpdbjadlacChecked
import GoSem.Claim
import GoSem.ClaimJoined
import GoSem.ClaimMapViews
import Derived.JoinedTies
import Derived.KernelRfl
namespace Go.Proofs.Ytnpaigpdbjadlac
/- THE CELL 'sum', in the pinned program and in every row, IS THE sha256 OF THE DUMP (.gsa) THAT YtnpaigpdbjadlacProg.lean LOADS. Nothing in Lean hashes anything: it is a label: what it is worth is what the hold of that sum in a sandbox is worth. -/
noncomputable def Try.pinned : Pinned := { name := "ytnpaigpdbjadlac", sum := "a6a4f0030f926f72a0cb4802ded83c00477d4d6c3eae6c3cccd90828bd56ae33", checked := Try.checked }
namespace Rows
def none {H : Type} : Left H := { results := [], args := [] }

/-- 'laws.FnExactRegisterValid': WHATEVER THE INPUT: true; the input reads as it did. -/
def fnExactRegisterValidSpec : ChangeSpec := { name := "fnExactRegisterValid", fn := fun _ => fun
  | [d] => { results := [.lit (.bool true)], args := [d] }
  | _ => none }
def fnExactRegisterValidRow : OpenClaim := { program := "ytnpaigpdbjadlac", sum := "a6a4f0030f926f72a0cb4802ded83c00477d4d6c3eae6c3cccd90828bd56ae33", func := "loop.example/spreadspectrum/laws.FnExactRegisterValid", spec := "fnExactRegisterValid", apart := false }
def FnExactRegisterValidSaid : Prop := fnExactRegisterValidRow.holds Try.pinned (OpenSpec.ofChange fnExactRegisterValidSpec)

/-- ITS FALSE NEIGHBOUR: 'it returns false'. Refute it at one input. -/
def fnExactRegisterValidWrong : ChangeSpec := { name := "fnExactRegisterValid", fn := fun _ => fun
  | [d] => { results := [.lit (.bool false)], args := [d] }
  | _ => none }
def FnExactRegisterValidWrongFalsely : Prop := fnExactRegisterValidRow.holds Try.pinned (OpenSpec.ofChange fnExactRegisterValidWrong)

/-- 'laws.FnExactParity': WHATEVER THE INPUT: true; the input reads as it did. -/
def fnExactParitySpec : ChangeSpec := { name := "fnExactParity", fn := fun _ => fun
  | [d] => { results := [.lit (.bool true)], args := [d] }
  | _ => none }
def fnExactParityRow : OpenClaim := { program := "ytnpaigpdbjadlac", sum := "a6a4f0030f926f72a0cb4802ded83c00477d4d6c3eae6c3cccd90828bd56ae33", func := "loop.example/spreadspectrum/laws.FnExactParity", spec := "fnExactParity", apart := false }
def FnExactParitySaid : Prop := fnExactParityRow.holds Try.pinned (OpenSpec.ofChange fnExactParitySpec)

/-- ITS FALSE NEIGHBOUR: 'it returns false'. Refute it at one input. -/
def fnExactParityWrong : ChangeSpec := { name := "fnExactParity", fn := fun _ => fun
  | [d] => { results := [.lit (.bool false)], args := [d] }
  | _ => none }
def FnExactParityWrongFalsely : Prop := fnExactParityRow.holds Try.pinned (OpenSpec.ofChange fnExactParityWrong)

/-- 'laws.FnParity': WHATEVER THE INPUT: true; the input reads as it did. -/
def fnParitySpec : ChangeSpec := { name := "fnParity", fn := fun _ => fun
  | [d1, d2] => { results := [.lit (.bool true)], args := [d1, d2] }
  | _ => none }
def fnParityRow : OpenClaim := { program := "ytnpaigpdbjadlac", sum := "a6a4f0030f926f72a0cb4802ded83c00477d4d6c3eae6c3cccd90828bd56ae33", func := "loop.example/spreadspectrum/laws.FnParity", spec := "fnParity", apart := false }
def FnParitySaid : Prop := fnParityRow.holds Try.pinned (OpenSpec.ofChange fnParitySpec)

/-- ITS FALSE NEIGHBOUR: 'it returns false'. Refute it at one input. -/
def fnParityWrong : ChangeSpec := { name := "fnParity", fn := fun _ => fun
  | [d1, d2] => { results := [.lit (.bool false)], args := [d1, d2] }
  | _ => none }
def FnParityWrongFalsely : Prop := fnParityRow.holds Try.pinned (OpenSpec.ofChange fnParityWrong)

/-- 'laws.FnExactReverseTaps': WHATEVER THE INPUT: true; the input reads as it did. -/
def fnExactReverseTapsSpec : ChangeSpec := { name := "fnExactReverseTaps", fn := fun _ => fun
  | [d1, d2] => { results := [.lit (.bool true)], args := [d1, d2] }
  | _ => none }
def fnExactReverseTapsRow : OpenClaim := { program := "ytnpaigpdbjadlac", sum := "a6a4f0030f926f72a0cb4802ded83c00477d4d6c3eae6c3cccd90828bd56ae33", func := "loop.example/spreadspectrum/laws.FnExactReverseTaps", spec := "fnExactReverseTaps", apart := false }
def FnExactReverseTapsSaid : Prop := fnExactReverseTapsRow.holds Try.pinned (OpenSpec.ofChange fnExactReverseTapsSpec)

/-- ITS FALSE NEIGHBOUR: 'it returns false'. Refute it at one input. -/
def fnExactReverseTapsWrong : ChangeSpec := { name := "fnExactReverseTaps", fn := fun _ => fun
  | [d1, d2] => { results := [.lit (.bool false)], args := [d1, d2] }
  | _ => none }
def FnExactReverseTapsWrongFalsely : Prop := fnExactReverseTapsRow.holds Try.pinned (OpenSpec.ofChange fnExactReverseTapsWrong)

/-- 'laws.FnReverse': WHATEVER THE INPUT: true; the input reads as it did. -/
def fnReverseSpec : ChangeSpec := { name := "fnReverse", fn := fun _ => fun
  | [d1, d2] => { results := [.lit (.bool true)], args := [d1, d2] }
  | _ => none }
def fnReverseRow : OpenClaim := { program := "ytnpaigpdbjadlac", sum := "a6a4f0030f926f72a0cb4802ded83c00477d4d6c3eae6c3cccd90828bd56ae33", func := "loop.example/spreadspectrum/laws.FnReverse", spec := "fnReverse", inPlace := ["internal/abi.NoEscape"], unfollowed := true, recurses := true, apart := false }
def FnReverseSaid : Prop := fnReverseRow.holds Try.pinned (OpenSpec.ofChange fnReverseSpec)

/-- ITS FALSE NEIGHBOUR: 'it returns false'. Refute it at one input. -/
def fnReverseWrong : ChangeSpec := { name := "fnReverse", fn := fun _ => fun
  | [d1, d2] => { results := [.lit (.bool false)], args := [d1, d2] }
  | _ => none }
def FnReverseWrongFalsely : Prop := fnReverseRow.holds Try.pinned (OpenSpec.ofChange fnReverseWrong)

/- THE SECOND FORM. 'bulk': how many values and letters a reading holds, each counted each time it is reached (what is shared counts as often as it is met; a slice's spare places count too). A statement '..UptoSaid' is the law's where the arguments, and the package variables that the reading takes, are together of bulk at most 1048576: NARROWER than '..Said'. Prove '..Said' where nothing that the law and all that it calls make is longer than what came in: it says more and counts as full. Else prove '..UptoSaid'. A law counts once. -/
mutual
def uptoBulk {H : Type} : DataW H → Nat
  | .lit (.string bytes) => bytes.length + 1
  | .lit _ => 1
  | .nil => 1
  | .ptr d => uptoBulk d + 1
  | .slice elems spare => uptoBulkAll elems + uptoBulkAll spare + 1
  | .agg parts => uptoBulkAll parts + 1
  | .iface _ d => uptoBulk d + 1
  | .map entries => uptoBulkEntries entries + 1
  | .held _ => 1
def uptoBulkAll {H : Type} : List (DataW H) → Nat
  | [] => 0
  | d :: r => uptoBulk d + uptoBulkAll r
def uptoBulkEntries {H : Type} : List (Lit × DataW H) → Nat
  | [] => 0
  | x :: r => uptoBulkEntry x + uptoBulkEntries r
def uptoBulkEntry {H : Type} : Lit × DataW H → Nat
  | (.string bytes, d) => bytes.length + uptoBulk d + 1
  | (_, d) => uptoBulk d + 1
 end
def uptoSmall : (H : Type) → List (DataW H) → Bool := fun _ ds => decide (uptoBulkAll ds ≤ 1048576)
def OpenSpec.upto (s : _root_.Go.ChangeSpec) : _root_.Go.OpenSpec := { _root_.Go.OpenSpec.ofChange s with cond := some uptoSmall }

/-- 'laws.FnExactRegisterValid', WHERE WHAT IT READS IS OF BULK AT MOST 1048576: true; the input reads as it did. -/
def fnExactRegisterValidUptoRow : OpenClaim := { program := "ytnpaigpdbjadlac", sum := "a6a4f0030f926f72a0cb4802ded83c00477d4d6c3eae6c3cccd90828bd56ae33", func := "loop.example/spreadspectrum/laws.FnExactRegisterValid", spec := "fnExactRegisterValid", apart := false, narrowed := true }
def FnExactRegisterValidUptoSaid : Prop := fnExactRegisterValidUptoRow.holds Try.pinned (OpenSpec.upto fnExactRegisterValidSpec)

/-- 'laws.FnExactParity', WHERE WHAT IT READS IS OF BULK AT MOST 1048576: true; the input reads as it did. -/
def fnExactParityUptoRow : OpenClaim := { program := "ytnpaigpdbjadlac", sum := "a6a4f0030f926f72a0cb4802ded83c00477d4d6c3eae6c3cccd90828bd56ae33", func := "loop.example/spreadspectrum/laws.FnExactParity", spec := "fnExactParity", apart := false, narrowed := true }
def FnExactParityUptoSaid : Prop := fnExactParityUptoRow.holds Try.pinned (OpenSpec.upto fnExactParitySpec)

/-- 'laws.FnParity', WHERE WHAT IT READS IS OF BULK AT MOST 1048576: true; the input reads as it did. -/
def fnParityUptoRow : OpenClaim := { program := "ytnpaigpdbjadlac", sum := "a6a4f0030f926f72a0cb4802ded83c00477d4d6c3eae6c3cccd90828bd56ae33", func := "loop.example/spreadspectrum/laws.FnParity", spec := "fnParity", apart := false, narrowed := true }
def FnParityUptoSaid : Prop := fnParityUptoRow.holds Try.pinned (OpenSpec.upto fnParitySpec)

/-- 'laws.FnExactReverseTaps', WHERE WHAT IT READS IS OF BULK AT MOST 1048576: true; the input reads as it did. -/
def fnExactReverseTapsUptoRow : OpenClaim := { program := "ytnpaigpdbjadlac", sum := "a6a4f0030f926f72a0cb4802ded83c00477d4d6c3eae6c3cccd90828bd56ae33", func := "loop.example/spreadspectrum/laws.FnExactReverseTaps", spec := "fnExactReverseTaps", apart := false, narrowed := true }
def FnExactReverseTapsUptoSaid : Prop := fnExactReverseTapsUptoRow.holds Try.pinned (OpenSpec.upto fnExactReverseTapsSpec)

/-- 'laws.FnReverse', WHERE WHAT IT READS IS OF BULK AT MOST 1048576: true; the input reads as it did. -/
def fnReverseUptoRow : OpenClaim := { program := "ytnpaigpdbjadlac", sum := "a6a4f0030f926f72a0cb4802ded83c00477d4d6c3eae6c3cccd90828bd56ae33", func := "loop.example/spreadspectrum/laws.FnReverse", spec := "fnReverse", inPlace := ["internal/abi.NoEscape"], unfollowed := true, recurses := true, apart := false, narrowed := true }
def FnReverseUptoSaid : Prop := fnReverseUptoRow.holds Try.pinned (OpenSpec.upto fnReverseSpec)

end Rows
end Go.Proofs.Ytnpaigpdbjadlac
