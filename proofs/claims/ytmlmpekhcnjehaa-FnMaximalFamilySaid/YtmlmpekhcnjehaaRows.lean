/-
  No cell of these rows narrows 'for every input' (looked for: loops, veiled, ifaces, maps, wideKeys, modest, calm, conditions, laid).
  DERIVED. THE GIVEN ROWS OF THIS SEAT. 3 by the template 'for every input the law returns true; each argument reads behind the call as it read before'; 0 by the template 'total and deterministic' (their statements: YtmlmpekhcnjehaaTotals.lean).
  GIVEN WITH THE SEED: the statements are not yours to turn. If you find one false, say at which input.
  Laid BY PROGRAM, IN A SANDBOX (cutbox-rows.mjs): the forced cells as the released guide's own fill.sh prints them over the translation 842c624ceed68d63… (all of the seat's roots in one cut). By AI agents, Wed Nov 11 2026. No macro, syntax, notation, axiom, sorry.
-/
import Derived.Test.YtmlmpekhcnjehaaChecked
import GoSem.Claim
import GoSem.ClaimJoined
import GoSem.ClaimMapViews
import Derived.JoinedTies
import Derived.KernelRfl
namespace Go.Proofs.Ytmlmpekhcnjehaa
/- THE CELL 'sum', in the pinned program and in every row, IS THE sha256 OF THE DUMP (.gsa) THAT YtmlmpekhcnjehaaProg.lean LOADS. Nothing in Lean hashes anything: it is a label: what it is worth is what the hold of that sum in a sandbox is worth. -/
noncomputable def Try.pinned : Pinned := { name := "ytmlmpekhcnjehaa", sum := "842c624ceed68d6342f2011bbfb1f4579caac0659dc20c26398035add6f567e6", checked := Try.checked }
namespace Rows
def none {H : Type} : Left H := { results := [], args := [] }

/-- 'laws.FnExactPreferredPairs': WHATEVER THE INPUT: true; the input reads as it did. -/
def fnExactPreferredPairsSpec : ChangeSpec := { name := "fnExactPreferredPairs", fn := fun _ => fun
  | [d] => { results := [.lit (.bool true)], args := [d] }
  | _ => none }
def fnExactPreferredPairsRow : OpenClaim := { program := "ytmlmpekhcnjehaa", sum := "842c624ceed68d6342f2011bbfb1f4579caac0659dc20c26398035add6f567e6", func := "loop.example/spreadspectrum/laws.FnExactPreferredPairs", spec := "fnExactPreferredPairs", inPlace := ["internal/abi.NoEscape"], unfollowed := true, recurses := true, apart := false }
def FnExactPreferredPairsSaid : Prop := fnExactPreferredPairsRow.holds Try.pinned (OpenSpec.ofChange fnExactPreferredPairsSpec)

/-- ITS FALSE NEIGHBOUR: 'it returns false'. Refute it at one input. -/
def fnExactPreferredPairsWrong : ChangeSpec := { name := "fnExactPreferredPairs", fn := fun _ => fun
  | [d] => { results := [.lit (.bool false)], args := [d] }
  | _ => none }
def FnExactPreferredPairsWrongFalsely : Prop := fnExactPreferredPairsRow.holds Try.pinned (OpenSpec.ofChange fnExactPreferredPairsWrong)

/-- 'laws.FnPreferredPairs': WHATEVER THE INPUT: true; the input reads as it did. -/
def fnPreferredPairsSpec : ChangeSpec := { name := "fnPreferredPairs", fn := fun _ => fun
  | [d] => { results := [.lit (.bool true)], args := [d] }
  | _ => none }
def fnPreferredPairsRow : OpenClaim := { program := "ytmlmpekhcnjehaa", sum := "842c624ceed68d6342f2011bbfb1f4579caac0659dc20c26398035add6f567e6", func := "loop.example/spreadspectrum/laws.FnPreferredPairs", spec := "fnPreferredPairs", inPlace := ["internal/abi.NoEscape"], unfollowed := true, recurses := true, apart := false }
def FnPreferredPairsSaid : Prop := fnPreferredPairsRow.holds Try.pinned (OpenSpec.ofChange fnPreferredPairsSpec)

/-- ITS FALSE NEIGHBOUR: 'it returns false'. Refute it at one input. -/
def fnPreferredPairsWrong : ChangeSpec := { name := "fnPreferredPairs", fn := fun _ => fun
  | [d] => { results := [.lit (.bool false)], args := [d] }
  | _ => none }
def FnPreferredPairsWrongFalsely : Prop := fnPreferredPairsRow.holds Try.pinned (OpenSpec.ofChange fnPreferredPairsWrong)

/-- 'laws.FnMaximalFamily': WHATEVER THE INPUT: true; the input reads as it did. -/
def fnMaximalFamilySpec : ChangeSpec := { name := "fnMaximalFamily", fn := fun _ => fun
  | [d1, d2] => { results := [.lit (.bool true)], args := [d1, d2] }
  | _ => none }
def fnMaximalFamilyRow : OpenClaim := { program := "ytmlmpekhcnjehaa", sum := "842c624ceed68d6342f2011bbfb1f4579caac0659dc20c26398035add6f567e6", func := "loop.example/spreadspectrum/laws.FnMaximalFamily", spec := "fnMaximalFamily", inPlace := ["internal/abi.NoEscape"], unfollowed := true, recurses := true, apart := false }
def FnMaximalFamilySaid : Prop := fnMaximalFamilyRow.holds Try.pinned (OpenSpec.ofChange fnMaximalFamilySpec)

/-- ITS FALSE NEIGHBOUR: 'it returns false'. Refute it at one input. -/
def fnMaximalFamilyWrong : ChangeSpec := { name := "fnMaximalFamily", fn := fun _ => fun
  | [d1, d2] => { results := [.lit (.bool false)], args := [d1, d2] }
  | _ => none }
def FnMaximalFamilyWrongFalsely : Prop := fnMaximalFamilyRow.holds Try.pinned (OpenSpec.ofChange fnMaximalFamilyWrong)

/- THE SECOND FORM. 'bulk': how many values and letters a reading holds, each counted each time it is reached (what is shared counts as often as it is met; a slice's spare places count too). A statement '..UptoSaid' is the law's where the arguments, and the package variables that the reading takes, are together of bulk at most 1048576: NARROWER than '..Said'. Prove '..Said' where nothing that the law and all that it calls make is longer than what came in: it says more and counts as full. Else prove '..UptoSaid'. A law counts once. -/
mutual
def uptoBulk {H : Type} : DataW H → Nat
  | .lit (.string bytes) => bytes.length + 1
  | .lit _ => 1
  | .nil => 1
  | .ptr d => uptoBulk d + 1
  | .slice elems spare => uptoBulkAll elems + uptoBulkAll spare + 1
  | .agg parts => uptoBulkAll parts + 1
  | .iface _ d => uptoBulk d + 1
  | .map entries => uptoBulkEntries entries + 1
  | .held _ => 1
def uptoBulkAll {H : Type} : List (DataW H) → Nat
  | [] => 0
  | d :: r => uptoBulk d + uptoBulkAll r
def uptoBulkEntries {H : Type} : List (Lit × DataW H) → Nat
  | [] => 0
  | x :: r => uptoBulkEntry x + uptoBulkEntries r
def uptoBulkEntry {H : Type} : Lit × DataW H → Nat
  | (.string bytes, d) => bytes.length + uptoBulk d + 1
  | (_, d) => uptoBulk d + 1
 end
def uptoSmall : (H : Type) → List (DataW H) → Bool := fun _ ds => decide (uptoBulkAll ds ≤ 1048576)
def OpenSpec.upto (s : _root_.Go.ChangeSpec) : _root_.Go.OpenSpec := { _root_.Go.OpenSpec.ofChange s with cond := some uptoSmall }

/-- 'laws.FnExactPreferredPairs', WHERE WHAT IT READS IS OF BULK AT MOST 1048576: true; the input reads as it did. -/
def fnExactPreferredPairsUptoRow : OpenClaim := { program := "ytmlmpekhcnjehaa", sum := "842c624ceed68d6342f2011bbfb1f4579caac0659dc20c26398035add6f567e6", func := "loop.example/spreadspectrum/laws.FnExactPreferredPairs", spec := "fnExactPreferredPairs", inPlace := ["internal/abi.NoEscape"], unfollowed := true, recurses := true, apart := false, narrowed := true }
def FnExactPreferredPairsUptoSaid : Prop := fnExactPreferredPairsUptoRow.holds Try.pinned (OpenSpec.upto fnExactPreferredPairsSpec)

/-- 'laws.FnPreferredPairs', WHERE WHAT IT READS IS OF BULK AT MOST 1048576: true; the input reads as it did. -/
def fnPreferredPairsUptoRow : OpenClaim := { program := "ytmlmpekhcnjehaa", sum := "842c624ceed68d6342f2011bbfb1f4579caac0659dc20c26398035add6f567e6", func := "loop.example/spreadspectrum/laws.FnPreferredPairs", spec := "fnPreferredPairs", inPlace := ["internal/abi.NoEscape"], unfollowed := true, recurses := true, apart := false, narrowed := true }
def FnPreferredPairsUptoSaid : Prop := fnPreferredPairsUptoRow.holds Try.pinned (OpenSpec.upto fnPreferredPairsSpec)

/-- 'laws.FnMaximalFamily', WHERE WHAT IT READS IS OF BULK AT MOST 1048576: true; the input reads as it did. -/
def fnMaximalFamilyUptoRow : OpenClaim := { program := "ytmlmpekhcnjehaa", sum := "842c624ceed68d6342f2011bbfb1f4579caac0659dc20c26398035add6f567e6", func := "loop.example/spreadspectrum/laws.FnMaximalFamily", spec := "fnMaximalFamily", inPlace := ["internal/abi.NoEscape"], unfollowed := true, recurses := true, apart := false, narrowed := true }
def FnMaximalFamilyUptoSaid : Prop := fnMaximalFamilyUptoRow.holds Try.pinned (OpenSpec.upto fnMaximalFamilySpec)

end Rows
end Go.Proofs.Ytmlmpekhcnjehaa
