/-
  No cell of these rows narrows 'for every input' (looked for: loops, veiled, ifaces, maps, wideKeys, modest, calm, conditions, laid).
  DERIVED. THE GIVEN ROWS OF THIS SEAT. 4 by the template 'for every input the law returns true; each argument reads behind the call as it read before'; 0 by the template 'total and deterministic' (their statements: YtjnipbopimpggabTotals.lean).
  GIVEN WITH THE SEED: the statements are not yours to turn. If you find one false, say at which input.
  Laid BY PROGRAM, IN A SANDBOX (cutbox-rows.mjs): the forced cells as the released guide's own fill.sh prints them over the translation ce0a6d2835f0fac9… (all of the seat's roots in one cut). By AI agents, Wed Nov 11 2026. No macro, syntax, notation, axiom, sorry.
-/
import Derived.Test.YtjnipbopimpggabChecked
import GoSem.Claim
import GoSem.ClaimJoined
import GoSem.ClaimMapViews
import Derived.JoinedTies
import Derived.KernelRfl
namespace Go.Proofs.Ytjnipbopimpggab
/- THE CELL 'sum', in the pinned program and in every row, IS THE sha256 OF THE DUMP (.gsa) THAT YtjnipbopimpggabProg.lean LOADS. Nothing in Lean hashes anything: it is a label: what it is worth is what the hold of that sum in a sandbox is worth. -/
noncomputable def Try.pinned : Pinned := { name := "ytjnipbopimpggab", sum := "ce0a6d2835f0fac9c7634da9454bf8501c4494ebe5760f3901978e64179f9cc8", checked := Try.checked }
namespace Rows
def none {H : Type} : Left H := { results := [], args := [] }

/-- 'laws.FnPowerControl': WHATEVER THE INPUT: true; the input reads as it did. -/
def fnPowerControlSpec : ChangeSpec := { name := "fnPowerControl", fn := fun _ => fun
  | [d] => { results := [.lit (.bool true)], args := [d] }
  | _ => none }
def fnPowerControlRow : OpenClaim := { program := "ytjnipbopimpggab", sum := "ce0a6d2835f0fac9c7634da9454bf8501c4494ebe5760f3901978e64179f9cc8", func := "loop.example/spreadspectrum/laws.FnPowerControl", spec := "fnPowerControl", recurses := true, apart := false }
def FnPowerControlSaid : Prop := fnPowerControlRow.holds Try.pinned (OpenSpec.ofChange fnPowerControlSpec)

/-- ITS FALSE NEIGHBOUR: 'it returns false'. Refute it at one input. -/
def fnPowerControlWrong : ChangeSpec := { name := "fnPowerControl", fn := fun _ => fun
  | [d] => { results := [.lit (.bool false)], args := [d] }
  | _ => none }
def FnPowerControlWrongFalsely : Prop := fnPowerControlRow.holds Try.pinned (OpenSpec.ofChange fnPowerControlWrong)

/-- 'laws.FnAdmitRelease': WHATEVER THE INPUT: true; the input reads as it did. -/
def fnAdmitReleaseSpec : ChangeSpec := { name := "fnAdmitRelease", fn := fun _ => fun
  | [d] => { results := [.lit (.bool true)], args := [d] }
  | _ => none }
def fnAdmitReleaseRow : OpenClaim := { program := "ytjnipbopimpggab", sum := "ce0a6d2835f0fac9c7634da9454bf8501c4494ebe5760f3901978e64179f9cc8", func := "loop.example/spreadspectrum/laws.FnAdmitRelease", spec := "fnAdmitRelease", unfollowed := true, recurses := true, apart := false }
def FnAdmitReleaseSaid : Prop := fnAdmitReleaseRow.holds Try.pinned (OpenSpec.ofChange fnAdmitReleaseSpec)

/-- ITS FALSE NEIGHBOUR: 'it returns false'. Refute it at one input. -/
def fnAdmitReleaseWrong : ChangeSpec := { name := "fnAdmitRelease", fn := fun _ => fun
  | [d] => { results := [.lit (.bool false)], args := [d] }
  | _ => none }
def FnAdmitReleaseWrongFalsely : Prop := fnAdmitReleaseRow.holds Try.pinned (OpenSpec.ofChange fnAdmitReleaseWrong)

/-- 'laws.FnRelease': WHATEVER THE INPUT: true; the input reads as it did. -/
def fnReleaseSpec : ChangeSpec := { name := "fnRelease", fn := fun _ => fun
  | [d1, d2] => { results := [.lit (.bool true)], args := [d1, d2] }
  | _ => none }
def fnReleaseRow : OpenClaim := { program := "ytjnipbopimpggab", sum := "ce0a6d2835f0fac9c7634da9454bf8501c4494ebe5760f3901978e64179f9cc8", func := "loop.example/spreadspectrum/laws.FnRelease", spec := "fnRelease", unfollowed := true, recurses := true, apart := false }
def FnReleaseSaid : Prop := fnReleaseRow.holds Try.pinned (OpenSpec.ofChange fnReleaseSpec)

/-- ITS FALSE NEIGHBOUR: 'it returns false'. Refute it at one input. -/
def fnReleaseWrong : ChangeSpec := { name := "fnRelease", fn := fun _ => fun
  | [d1, d2] => { results := [.lit (.bool false)], args := [d1, d2] }
  | _ => none }
def FnReleaseWrongFalsely : Prop := fnReleaseRow.holds Try.pinned (OpenSpec.ofChange fnReleaseWrong)

/-- 'laws.FnAdmitFull': WHATEVER THE INPUT: true; the input reads as it did. -/
def fnAdmitFullSpec : ChangeSpec := { name := "fnAdmitFull", fn := fun _ => fun
  | [d] => { results := [.lit (.bool true)], args := [d] }
  | _ => none }
def fnAdmitFullRow : OpenClaim := { program := "ytjnipbopimpggab", sum := "ce0a6d2835f0fac9c7634da9454bf8501c4494ebe5760f3901978e64179f9cc8", func := "loop.example/spreadspectrum/laws.FnAdmitFull", spec := "fnAdmitFull", unfollowed := true, recurses := true, apart := false }
def FnAdmitFullSaid : Prop := fnAdmitFullRow.holds Try.pinned (OpenSpec.ofChange fnAdmitFullSpec)

/-- ITS FALSE NEIGHBOUR: 'it returns false'. Refute it at one input. -/
def fnAdmitFullWrong : ChangeSpec := { name := "fnAdmitFull", fn := fun _ => fun
  | [d] => { results := [.lit (.bool false)], args := [d] }
  | _ => none }
def FnAdmitFullWrongFalsely : Prop := fnAdmitFullRow.holds Try.pinned (OpenSpec.ofChange fnAdmitFullWrong)

/- THE SECOND FORM. 'bulk': how many values and letters a reading holds, each counted each time it is reached (what is shared counts as often as it is met; a slice's spare places count too). A statement '..UptoSaid' is the law's where the arguments, and the package variables that the reading takes, are together of bulk at most 1048576: NARROWER than '..Said'. Prove '..Said' where nothing that the law and all that it calls make is longer than what came in: it says more and counts as full. Else prove '..UptoSaid'. A law counts once. -/
mutual
def uptoBulk {H : Type} : DataW H → Nat
  | .lit (.string bytes) => bytes.length + 1
  | .lit _ => 1
  | .nil => 1
  | .ptr d => uptoBulk d + 1
  | .slice elems spare => uptoBulkAll elems + uptoBulkAll spare + 1
  | .agg parts => uptoBulkAll parts + 1
  | .iface _ d => uptoBulk d + 1
  | .map entries => uptoBulkEntries entries + 1
  | .held _ => 1
def uptoBulkAll {H : Type} : List (DataW H) → Nat
  | [] => 0
  | d :: r => uptoBulk d + uptoBulkAll r
def uptoBulkEntries {H : Type} : List (Lit × DataW H) → Nat
  | [] => 0
  | x :: r => uptoBulkEntry x + uptoBulkEntries r
def uptoBulkEntry {H : Type} : Lit × DataW H → Nat
  | (.string bytes, d) => bytes.length + uptoBulk d + 1
  | (_, d) => uptoBulk d + 1
 end
def uptoSmall : (H : Type) → List (DataW H) → Bool := fun _ ds => decide (uptoBulkAll ds ≤ 1048576)
def OpenSpec.upto (s : _root_.Go.ChangeSpec) : _root_.Go.OpenSpec := { _root_.Go.OpenSpec.ofChange s with cond := some uptoSmall }

/-- 'laws.FnPowerControl', WHERE WHAT IT READS IS OF BULK AT MOST 1048576: true; the input reads as it did. -/
def fnPowerControlUptoRow : OpenClaim := { program := "ytjnipbopimpggab", sum := "ce0a6d2835f0fac9c7634da9454bf8501c4494ebe5760f3901978e64179f9cc8", func := "loop.example/spreadspectrum/laws.FnPowerControl", spec := "fnPowerControl", recurses := true, apart := false, narrowed := true }
def FnPowerControlUptoSaid : Prop := fnPowerControlUptoRow.holds Try.pinned (OpenSpec.upto fnPowerControlSpec)

/-- 'laws.FnAdmitRelease', WHERE WHAT IT READS IS OF BULK AT MOST 1048576: true; the input reads as it did. -/
def fnAdmitReleaseUptoRow : OpenClaim := { program := "ytjnipbopimpggab", sum := "ce0a6d2835f0fac9c7634da9454bf8501c4494ebe5760f3901978e64179f9cc8", func := "loop.example/spreadspectrum/laws.FnAdmitRelease", spec := "fnAdmitRelease", unfollowed := true, recurses := true, apart := false, narrowed := true }
def FnAdmitReleaseUptoSaid : Prop := fnAdmitReleaseUptoRow.holds Try.pinned (OpenSpec.upto fnAdmitReleaseSpec)

/-- 'laws.FnRelease', WHERE WHAT IT READS IS OF BULK AT MOST 1048576: true; the input reads as it did. -/
def fnReleaseUptoRow : OpenClaim := { program := "ytjnipbopimpggab", sum := "ce0a6d2835f0fac9c7634da9454bf8501c4494ebe5760f3901978e64179f9cc8", func := "loop.example/spreadspectrum/laws.FnRelease", spec := "fnRelease", unfollowed := true, recurses := true, apart := false, narrowed := true }
def FnReleaseUptoSaid : Prop := fnReleaseUptoRow.holds Try.pinned (OpenSpec.upto fnReleaseSpec)

/-- 'laws.FnAdmitFull', WHERE WHAT IT READS IS OF BULK AT MOST 1048576: true; the input reads as it did. -/
def fnAdmitFullUptoRow : OpenClaim := { program := "ytjnipbopimpggab", sum := "ce0a6d2835f0fac9c7634da9454bf8501c4494ebe5760f3901978e64179f9cc8", func := "loop.example/spreadspectrum/laws.FnAdmitFull", spec := "fnAdmitFull", unfollowed := true, recurses := true, apart := false, narrowed := true }
def FnAdmitFullUptoSaid : Prop := fnAdmitFullUptoRow.holds Try.pinned (OpenSpec.upto fnAdmitFullSpec)

end Rows
end Go.Proofs.Ytjnipbopimpggab
