/-
  No cell of these rows narrows 'for every input' (looked for: loops, veiled, ifaces, maps, wideKeys, modest, calm, conditions, laid).
  DERIVED. THE GIVEN ROWS OF THIS SEAT. 3 by the template 'for every input the law returns true; each argument reads behind the call as it read before'; 0 by the template 'total and deterministic' (their statements: YtefnabcpjggkaaaTotals.lean).
  GIVEN WITH THE SEED: the statements are not yours to turn. If you find one false, say at which input.
  Laid BY PROGRAM, IN A SANDBOX (cutbox-rows.mjs): the forced cells as the released guide's own fill.sh prints them over the translation da0806a91d472844… (all of the seat's roots in one cut). By AI agents, Wed Nov 11 2026. No macro, syntax, notation, axiom, sorry.
-/
import Derived.Test.YtefnabcpjggkaaaChecked
import GoSem.Claim
import GoSem.ClaimJoined
import GoSem.ClaimMapViews
import Derived.JoinedTies
import Derived.KernelRfl
namespace Go.Proofs.Ytefnabcpjggkaaa
/- THE CELL 'sum', in the pinned program and in every row, IS THE sha256 OF THE DUMP (.gsa) THAT YtefnabcpjggkaaaProg.lean LOADS. Nothing in Lean hashes anything: it is a label: what it is worth is what the hold of that sum in a sandbox is worth. -/
noncomputable def Try.pinned : Pinned := { name := "ytefnabcpjggkaaa", sum := "da0806a91d472844f3474313c54c33b437edf8fba823132e0967f7b2b6da418c", checked := Try.checked }
namespace Rows
def none {H : Type} : Left H := { results := [], args := [] }

/-- 'laws.FnExactDropSample': WHATEVER THE INPUT: true; the input reads as it did. -/
def fnExactDropSampleSpec : ChangeSpec := { name := "fnExactDropSample", fn := fun _ => fun
  | [d1, d2] => { results := [.lit (.bool true)], args := [d1, d2] }
  | _ => none }
def fnExactDropSampleRow : OpenClaim := { program := "ytefnabcpjggkaaa", sum := "da0806a91d472844f3474313c54c33b437edf8fba823132e0967f7b2b6da418c", func := "loop.example/spreadspectrum/laws.FnExactDropSample", spec := "fnExactDropSample", apart := false }
def FnExactDropSampleSaid : Prop := fnExactDropSampleRow.holds Try.pinned (OpenSpec.ofChange fnExactDropSampleSpec)

/-- ITS FALSE NEIGHBOUR: 'it returns false'. Refute it at one input. -/
def fnExactDropSampleWrong : ChangeSpec := { name := "fnExactDropSample", fn := fun _ => fun
  | [d1, d2] => { results := [.lit (.bool false)], args := [d1, d2] }
  | _ => none }
def FnExactDropSampleWrongFalsely : Prop := fnExactDropSampleRow.holds Try.pinned (OpenSpec.ofChange fnExactDropSampleWrong)

/-- 'laws.FnExactRepeatSample': WHATEVER THE INPUT: true; the input reads as it did. -/
def fnExactRepeatSampleSpec : ChangeSpec := { name := "fnExactRepeatSample", fn := fun _ => fun
  | [d1, d2] => { results := [.lit (.bool true)], args := [d1, d2] }
  | _ => none }
def fnExactRepeatSampleRow : OpenClaim := { program := "ytefnabcpjggkaaa", sum := "da0806a91d472844f3474313c54c33b437edf8fba823132e0967f7b2b6da418c", func := "loop.example/spreadspectrum/laws.FnExactRepeatSample", spec := "fnExactRepeatSample", apart := false }
def FnExactRepeatSampleSaid : Prop := fnExactRepeatSampleRow.holds Try.pinned (OpenSpec.ofChange fnExactRepeatSampleSpec)

/-- ITS FALSE NEIGHBOUR: 'it returns false'. Refute it at one input. -/
def fnExactRepeatSampleWrong : ChangeSpec := { name := "fnExactRepeatSample", fn := fun _ => fun
  | [d1, d2] => { results := [.lit (.bool false)], args := [d1, d2] }
  | _ => none }
def FnExactRepeatSampleWrongFalsely : Prop := fnExactRepeatSampleRow.holds Try.pinned (OpenSpec.ofChange fnExactRepeatSampleWrong)

/-- 'laws.FnDropRepeat': WHATEVER THE INPUT: true; the input reads as it did. -/
def fnDropRepeatSpec : ChangeSpec := { name := "fnDropRepeat", fn := fun _ => fun
  | [d1, d2] => { results := [.lit (.bool true)], args := [d1, d2] }
  | _ => none }
def fnDropRepeatRow : OpenClaim := { program := "ytefnabcpjggkaaa", sum := "da0806a91d472844f3474313c54c33b437edf8fba823132e0967f7b2b6da418c", func := "loop.example/spreadspectrum/laws.FnDropRepeat", spec := "fnDropRepeat", inPlace := ["internal/abi.NoEscape"], unfollowed := true, recurses := true, apart := false }
def FnDropRepeatSaid : Prop := fnDropRepeatRow.holds Try.pinned (OpenSpec.ofChange fnDropRepeatSpec)

/-- ITS FALSE NEIGHBOUR: 'it returns false'. Refute it at one input. -/
def fnDropRepeatWrong : ChangeSpec := { name := "fnDropRepeat", fn := fun _ => fun
  | [d1, d2] => { results := [.lit (.bool false)], args := [d1, d2] }
  | _ => none }
def FnDropRepeatWrongFalsely : Prop := fnDropRepeatRow.holds Try.pinned (OpenSpec.ofChange fnDropRepeatWrong)

/- THE SECOND FORM. 'bulk': how many values and letters a reading holds, each counted each time it is reached (what is shared counts as often as it is met; a slice's spare places count too). A statement '..UptoSaid' is the law's where the arguments, and the package variables that the reading takes, are together of bulk at most 1048576: NARROWER than '..Said'. Prove '..Said' where nothing that the law and all that it calls make is longer than what came in: it says more and counts as full. Else prove '..UptoSaid'. A law counts once. -/
mutual
def uptoBulk {H : Type} : DataW H → Nat
  | .lit (.string bytes) => bytes.length + 1
  | .lit _ => 1
  | .nil => 1
  | .ptr d => uptoBulk d + 1
  | .slice elems spare => uptoBulkAll elems + uptoBulkAll spare + 1
  | .agg parts => uptoBulkAll parts + 1
  | .iface _ d => uptoBulk d + 1
  | .map entries => uptoBulkEntries entries + 1
  | .held _ => 1
def uptoBulkAll {H : Type} : List (DataW H) → Nat
  | [] => 0
  | d :: r => uptoBulk d + uptoBulkAll r
def uptoBulkEntries {H : Type} : List (Lit × DataW H) → Nat
  | [] => 0
  | x :: r => uptoBulkEntry x + uptoBulkEntries r
def uptoBulkEntry {H : Type} : Lit × DataW H → Nat
  | (.string bytes, d) => bytes.length + uptoBulk d + 1
  | (_, d) => uptoBulk d + 1
 end
def uptoSmall : (H : Type) → List (DataW H) → Bool := fun _ ds => decide (uptoBulkAll ds ≤ 1048576)
def OpenSpec.upto (s : _root_.Go.ChangeSpec) : _root_.Go.OpenSpec := { _root_.Go.OpenSpec.ofChange s with cond := some uptoSmall }

/-- 'laws.FnExactDropSample', WHERE WHAT IT READS IS OF BULK AT MOST 1048576: true; the input reads as it did. -/
def fnExactDropSampleUptoRow : OpenClaim := { program := "ytefnabcpjggkaaa", sum := "da0806a91d472844f3474313c54c33b437edf8fba823132e0967f7b2b6da418c", func := "loop.example/spreadspectrum/laws.FnExactDropSample", spec := "fnExactDropSample", apart := false, narrowed := true }
def FnExactDropSampleUptoSaid : Prop := fnExactDropSampleUptoRow.holds Try.pinned (OpenSpec.upto fnExactDropSampleSpec)

/-- 'laws.FnExactRepeatSample', WHERE WHAT IT READS IS OF BULK AT MOST 1048576: true; the input reads as it did. -/
def fnExactRepeatSampleUptoRow : OpenClaim := { program := "ytefnabcpjggkaaa", sum := "da0806a91d472844f3474313c54c33b437edf8fba823132e0967f7b2b6da418c", func := "loop.example/spreadspectrum/laws.FnExactRepeatSample", spec := "fnExactRepeatSample", apart := false, narrowed := true }
def FnExactRepeatSampleUptoSaid : Prop := fnExactRepeatSampleUptoRow.holds Try.pinned (OpenSpec.upto fnExactRepeatSampleSpec)

/-- 'laws.FnDropRepeat', WHERE WHAT IT READS IS OF BULK AT MOST 1048576: true; the input reads as it did. -/
def fnDropRepeatUptoRow : OpenClaim := { program := "ytefnabcpjggkaaa", sum := "da0806a91d472844f3474313c54c33b437edf8fba823132e0967f7b2b6da418c", func := "loop.example/spreadspectrum/laws.FnDropRepeat", spec := "fnDropRepeat", inPlace := ["internal/abi.NoEscape"], unfollowed := true, recurses := true, apart := false, narrowed := true }
def FnDropRepeatUptoSaid : Prop := fnDropRepeatUptoRow.holds Try.pinned (OpenSpec.upto fnDropRepeatSpec)

end Rows
end Go.Proofs.Ytefnabcpjggkaaa
