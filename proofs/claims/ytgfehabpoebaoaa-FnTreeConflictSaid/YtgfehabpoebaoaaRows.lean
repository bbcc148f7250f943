/-
  No cell of these rows narrows 'for every input' (looked for: loops, veiled, ifaces, maps, wideKeys, modest, calm, conditions, laid).
  DERIVED. THE GIVEN ROWS OF THIS SEAT. 6 by the template 'for every input the law returns true; each argument reads behind the call as it read before'; 0 by the template 'total and deterministic' (their statements: YtgfehabpoebaoaaTotals.lean).
  GIVEN WITH THE SEED: the statements are not yours to turn. If you find one false, say at which input.
  Laid BY PROGRAM, IN A SANDBOX (cutbox-rows.mjs): the forced cells as the released guide's own fill.sh prints them over the translation 56256f368b7b978d… (all of the seat's roots in one cut). By AI agents, Wed Nov 11 2026. No macro, syntax, notation, axiom, sorry.
-/
import Derived.Test.YtgfehabpoebaoaaChecked
import GoSem.Claim
import GoSem.ClaimJoined
import GoSem.ClaimMapViews
import Derived.JoinedTies
import Derived.KernelRfl
namespace Go.Proofs.Ytgfehabpoebaoaa
/- THE CELL 'sum', in the pinned program and in every row, IS THE sha256 OF THE DUMP (.gsa) THAT YtgfehabpoebaoaaProg.lean LOADS. Nothing in Lean hashes anything: it is a label: what it is worth is what the hold of that sum in a sandbox is worth. -/
noncomputable def Try.pinned : Pinned := { name := "ytgfehabpoebaoaa", sum := "56256f368b7b978d1a6db53b6a6f2307ba32a674e1e1469cfd58a29bcb3bbce8", checked := Try.checked }
namespace Rows
def none {H : Type} : Left H := { results := [], args := [] }

/-- 'laws.FnBarker': WHATEVER THE INPUT: true; the input reads as it did. -/
def fnBarkerSpec : ChangeSpec := { name := "fnBarker", fn := fun _ => fun
  | [d] => { results := [.lit (.bool true)], args := [d] }
  | _ => none }
def fnBarkerRow : OpenClaim := { program := "ytgfehabpoebaoaa", sum := "56256f368b7b978d1a6db53b6a6f2307ba32a674e1e1469cfd58a29bcb3bbce8", func := "loop.example/spreadspectrum/laws.FnBarker", spec := "fnBarker", recurses := true, apart := false }
def FnBarkerSaid : Prop := fnBarkerRow.holds Try.pinned (OpenSpec.ofChange fnBarkerSpec)

/-- ITS FALSE NEIGHBOUR: 'it returns false'. Refute it at one input. -/
def fnBarkerWrong : ChangeSpec := { name := "fnBarker", fn := fun _ => fun
  | [d] => { results := [.lit (.bool false)], args := [d] }
  | _ => none }
def FnBarkerWrongFalsely : Prop := fnBarkerRow.holds Try.pinned (OpenSpec.ofChange fnBarkerWrong)

/-- 'laws.FnFirstBarker': WHATEVER THE INPUT: true; the input reads as it did. -/
def fnFirstBarkerSpec : ChangeSpec := { name := "fnFirstBarker", fn := fun _ => fun
  | [d] => { results := [.lit (.bool true)], args := [d] }
  | _ => none }
def fnFirstBarkerRow : OpenClaim := { program := "ytgfehabpoebaoaa", sum := "56256f368b7b978d1a6db53b6a6f2307ba32a674e1e1469cfd58a29bcb3bbce8", func := "loop.example/spreadspectrum/laws.FnFirstBarker", spec := "fnFirstBarker", recurses := true, apart := false }
def FnFirstBarkerSaid : Prop := fnFirstBarkerRow.holds Try.pinned (OpenSpec.ofChange fnFirstBarkerSpec)

/-- ITS FALSE NEIGHBOUR: 'it returns false'. Refute it at one input. -/
def fnFirstBarkerWrong : ChangeSpec := { name := "fnFirstBarker", fn := fun _ => fun
  | [d] => { results := [.lit (.bool false)], args := [d] }
  | _ => none }
def FnFirstBarkerWrongFalsely : Prop := fnFirstBarkerRow.holds Try.pinned (OpenSpec.ofChange fnFirstBarkerWrong)

/-- 'laws.FnTreeCode': WHATEVER THE INPUT: true; the input reads as it did. -/
def fnTreeCodeSpec : ChangeSpec := { name := "fnTreeCode", fn := fun _ => fun
  | [d] => { results := [.lit (.bool true)], args := [d] }
  | _ => none }
def fnTreeCodeRow : OpenClaim := { program := "ytgfehabpoebaoaa", sum := "56256f368b7b978d1a6db53b6a6f2307ba32a674e1e1469cfd58a29bcb3bbce8", func := "loop.example/spreadspectrum/laws.FnTreeCode", spec := "fnTreeCode", apart := false }
def FnTreeCodeSaid : Prop := fnTreeCodeRow.holds Try.pinned (OpenSpec.ofChange fnTreeCodeSpec)

/-- ITS FALSE NEIGHBOUR: 'it returns false'. Refute it at one input. -/
def fnTreeCodeWrong : ChangeSpec := { name := "fnTreeCode", fn := fun _ => fun
  | [d] => { results := [.lit (.bool false)], args := [d] }
  | _ => none }
def FnTreeCodeWrongFalsely : Prop := fnTreeCodeRow.holds Try.pinned (OpenSpec.ofChange fnTreeCodeWrong)

/-- 'laws.FnTreeConflict': WHATEVER THE INPUT: true; the input reads as it did. -/
def fnTreeConflictSpec : ChangeSpec := { name := "fnTreeConflict", fn := fun _ => fun
  | [d] => { results := [.lit (.bool true)], args := [d] }
  | _ => none }
def fnTreeConflictRow : OpenClaim := { program := "ytgfehabpoebaoaa", sum := "56256f368b7b978d1a6db53b6a6f2307ba32a674e1e1469cfd58a29bcb3bbce8", func := "loop.example/spreadspectrum/laws.FnTreeConflict", spec := "fnTreeConflict", apart := false }
def FnTreeConflictSaid : Prop := fnTreeConflictRow.holds Try.pinned (OpenSpec.ofChange fnTreeConflictSpec)

/-- ITS FALSE NEIGHBOUR: 'it returns false'. Refute it at one input. -/
def fnTreeConflictWrong : ChangeSpec := { name := "fnTreeConflict", fn := fun _ => fun
  | [d] => { results := [.lit (.bool false)], args := [d] }
  | _ => none }
def FnTreeConflictWrongFalsely : Prop := fnTreeConflictRow.holds Try.pinned (OpenSpec.ofChange fnTreeConflictWrong)

/-- 'laws.FnWalsh': WHATEVER THE INPUT: true; the input reads as it did. -/
def fnWalshSpec : ChangeSpec := { name := "fnWalsh", fn := fun _ => fun
  | [d] => { results := [.lit (.bool true)], args := [d] }
  | _ => none }
def fnWalshRow : OpenClaim := { program := "ytgfehabpoebaoaa", sum := "56256f368b7b978d1a6db53b6a6f2307ba32a674e1e1469cfd58a29bcb3bbce8", func := "loop.example/spreadspectrum/laws.FnWalsh", spec := "fnWalsh", apart := false }
def FnWalshSaid : Prop := fnWalshRow.holds Try.pinned (OpenSpec.ofChange fnWalshSpec)

/-- ITS FALSE NEIGHBOUR: 'it returns false'. Refute it at one input. -/
def fnWalshWrong : ChangeSpec := { name := "fnWalsh", fn := fun _ => fun
  | [d] => { results := [.lit (.bool false)], args := [d] }
  | _ => none }
def FnWalshWrongFalsely : Prop := fnWalshRow.holds Try.pinned (OpenSpec.ofChange fnWalshWrong)

/-- 'laws.FnWalshIndex': WHATEVER THE INPUT: true; the input reads as it did. -/
def fnWalshIndexSpec : ChangeSpec := { name := "fnWalshIndex", fn := fun _ => fun
  | [d] => { results := [.lit (.bool true)], args := [d] }
  | _ => none }
def fnWalshIndexRow : OpenClaim := { program := "ytgfehabpoebaoaa", sum := "56256f368b7b978d1a6db53b6a6f2307ba32a674e1e1469cfd58a29bcb3bbce8", func := "loop.example/spreadspectrum/laws.FnWalshIndex", spec := "fnWalshIndex", apart := false }
def FnWalshIndexSaid : Prop := fnWalshIndexRow.holds Try.pinned (OpenSpec.ofChange fnWalshIndexSpec)

/-- ITS FALSE NEIGHBOUR: 'it returns false'. Refute it at one input. -/
def fnWalshIndexWrong : ChangeSpec := { name := "fnWalshIndex", fn := fun _ => fun
  | [d] => { results := [.lit (.bool false)], args := [d] }
  | _ => none }
def FnWalshIndexWrongFalsely : Prop := fnWalshIndexRow.holds Try.pinned (OpenSpec.ofChange fnWalshIndexWrong)

/- THE SECOND FORM. 'bulk': how many values and letters a reading holds, each counted each time it is reached (what is shared counts as often as it is met; a slice's spare places count too). A statement '..UptoSaid' is the law's where the arguments, and the package variables that the reading takes, are together of bulk at most 1048576: NARROWER than '..Said'. Prove '..Said' where nothing that the law and all that it calls make is longer than what came in: it says more and counts as full. Else prove '..UptoSaid'. A law counts once. -/
mutual
def uptoBulk {H : Type} : DataW H → Nat
  | .lit (.string bytes) => bytes.length + 1
  | .lit _ => 1
  | .nil => 1
  | .ptr d => uptoBulk d + 1
  | .slice elems spare => uptoBulkAll elems + uptoBulkAll spare + 1
  | .agg parts => uptoBulkAll parts + 1
  | .iface _ d => uptoBulk d + 1
  | .map entries => uptoBulkEntries entries + 1
  | .held _ => 1
def uptoBulkAll {H : Type} : List (DataW H) → Nat
  | [] => 0
  | d :: r => uptoBulk d + uptoBulkAll r
def uptoBulkEntries {H : Type} : List (Lit × DataW H) → Nat
  | [] => 0
  | x :: r => uptoBulkEntry x + uptoBulkEntries r
def uptoBulkEntry {H : Type} : Lit × DataW H → Nat
  | (.string bytes, d) => bytes.length + uptoBulk d + 1
  | (_, d) => uptoBulk d + 1
 end
def uptoSmall : (H : Type) → List (DataW H) → Bool := fun _ ds => decide (uptoBulkAll ds ≤ 1048576)
def OpenSpec.upto (s : _root_.Go.ChangeSpec) : _root_.Go.OpenSpec := { _root_.Go.OpenSpec.ofChange s with cond := some uptoSmall }

/-- 'laws.FnBarker', WHERE WHAT IT READS IS OF BULK AT MOST 1048576: true; the input reads as it did. -/
def fnBarkerUptoRow : OpenClaim := { program := "ytgfehabpoebaoaa", sum := "56256f368b7b978d1a6db53b6a6f2307ba32a674e1e1469cfd58a29bcb3bbce8", func := "loop.example/spreadspectrum/laws.FnBarker", spec := "fnBarker", recurses := true, apart := false, narrowed := true }
def FnBarkerUptoSaid : Prop := fnBarkerUptoRow.holds Try.pinned (OpenSpec.upto fnBarkerSpec)

/-- 'laws.FnFirstBarker', WHERE WHAT IT READS IS OF BULK AT MOST 1048576: true; the input reads as it did. -/
def fnFirstBarkerUptoRow : OpenClaim := { program := "ytgfehabpoebaoaa", sum := "56256f368b7b978d1a6db53b6a6f2307ba32a674e1e1469cfd58a29bcb3bbce8", func := "loop.example/spreadspectrum/laws.FnFirstBarker", spec := "fnFirstBarker", recurses := true, apart := false, narrowed := true }
def FnFirstBarkerUptoSaid : Prop := fnFirstBarkerUptoRow.holds Try.pinned (OpenSpec.upto fnFirstBarkerSpec)

/-- 'laws.FnTreeCode', WHERE WHAT IT READS IS OF BULK AT MOST 1048576: true; the input reads as it did. -/
def fnTreeCodeUptoRow : OpenClaim := { program := "ytgfehabpoebaoaa", sum := "56256f368b7b978d1a6db53b6a6f2307ba32a674e1e1469cfd58a29bcb3bbce8", func := "loop.example/spreadspectrum/laws.FnTreeCode", spec := "fnTreeCode", apart := false, narrowed := true }
def FnTreeCodeUptoSaid : Prop := fnTreeCodeUptoRow.holds Try.pinned (OpenSpec.upto fnTreeCodeSpec)

/-- 'laws.FnTreeConflict', WHERE WHAT IT READS IS OF BULK AT MOST 1048576: true; the input reads as it did. -/
def fnTreeConflictUptoRow : OpenClaim := { program := "ytgfehabpoebaoaa", sum := "56256f368b7b978d1a6db53b6a6f2307ba32a674e1e1469cfd58a29bcb3bbce8", func := "loop.example/spreadspectrum/laws.FnTreeConflict", spec := "fnTreeConflict", apart := false, narrowed := true }
def FnTreeConflictUptoSaid : Prop := fnTreeConflictUptoRow.holds Try.pinned (OpenSpec.upto fnTreeConflictSpec)

/-- 'laws.FnWalsh', WHERE WHAT IT READS IS OF BULK AT MOST 1048576: true; the input reads as it did. -/
def fnWalshUptoRow : OpenClaim := { program := "ytgfehabpoebaoaa", sum := "56256f368b7b978d1a6db53b6a6f2307ba32a674e1e1469cfd58a29bcb3bbce8", func := "loop.example/spreadspectrum/laws.FnWalsh", spec := "fnWalsh", apart := false, narrowed := true }
def FnWalshUptoSaid : Prop := fnWalshUptoRow.holds Try.pinned (OpenSpec.upto fnWalshSpec)

/-- 'laws.FnWalshIndex', WHERE WHAT IT READS IS OF BULK AT MOST 1048576: true; the input reads as it did. -/
def fnWalshIndexUptoRow : OpenClaim := { program := "ytgfehabpoebaoaa", sum := "56256f368b7b978d1a6db53b6a6f2307ba32a674e1e1469cfd58a29bcb3bbce8", func := "loop.example/spreadspectrum/laws.FnWalshIndex", spec := "fnWalshIndex", apart := false, narrowed := true }
def FnWalshIndexUptoSaid : Prop := fnWalshIndexUptoRow.holds Try.pinned (OpenSpec.upto fnWalshIndexSpec)

end Rows
end Go.Proofs.Ytgfehabpoebaoaa
