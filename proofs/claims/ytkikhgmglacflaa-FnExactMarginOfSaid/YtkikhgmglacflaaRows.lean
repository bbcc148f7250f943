/-
  No cell of these rows narrows 'for every input' (looked for: loops, veiled, ifaces, maps, wideKeys, modest, calm, conditions, laid).
  DERIVED. THE GIVEN ROWS OF THIS SEAT. 14 by the template 'for every input the law returns true; each argument reads behind the call as it read before'; 0 by the template 'total and deterministic' (their statements: YtkikhgmglacflaaTotals.lean).
  GIVEN WITH THE SEED: the statements are not yours to turn. If you find one false, say at which input.
  Laid BY PROGRAM, IN A SANDBOX (cutbox-rows.mjs): the forced cells as the released guide's own fill.sh prints them over the translation 2ed967b1853fca2f… (all of the seat's roots in one cut). By AI agents, Wed Nov 11 2026. No macro, syntax, notation, axiom, sorry.
-/
import Derived.Test.YtkikhgmglacflaaChecked
import GoSem.Claim
import GoSem.ClaimJoined
import GoSem.ClaimMapViews
import Derived.JoinedTies
import Derived.KernelRfl
namespace Go.Proofs.Ytkikhgmglacflaa
/- THE CELL 'sum', in the pinned program and in every row, IS THE sha256 OF THE DUMP (.gsa) THAT YtkikhgmglacflaaProg.lean LOADS. Nothing in Lean hashes anything: it is a label: what it is worth is what the hold of that sum in a sandbox is worth. -/
noncomputable def Try.pinned : Pinned := { name := "ytkikhgmglacflaa", sum := "2ed967b1853fca2fa977e4c1b75a17f86ff0d3ac01b4c0dad468dd7d256124cf", checked := Try.checked }
namespace Rows
def none {H : Type} : Left H := { results := [], args := [] }

/-- 'laws.FnExactSignalValid': WHATEVER THE INPUT: true; the input reads as it did. -/
def fnExactSignalValidSpec : ChangeSpec := { name := "fnExactSignalValid", fn := fun _ => fun
  | [d] => { results := [.lit (.bool true)], args := [d] }
  | _ => none }
def fnExactSignalValidRow : OpenClaim := { program := "ytkikhgmglacflaa", sum := "2ed967b1853fca2fa977e4c1b75a17f86ff0d3ac01b4c0dad468dd7d256124cf", func := "loop.example/spreadspectrum/laws.FnExactSignalValid", spec := "fnExactSignalValid", apart := false }
def FnExactSignalValidSaid : Prop := fnExactSignalValidRow.holds Try.pinned (OpenSpec.ofChange fnExactSignalValidSpec)

/-- ITS FALSE NEIGHBOUR: 'it returns false'. Refute it at one input. -/
def fnExactSignalValidWrong : ChangeSpec := { name := "fnExactSignalValid", fn := fun _ => fun
  | [d] => { results := [.lit (.bool false)], args := [d] }
  | _ => none }
def FnExactSignalValidWrongFalsely : Prop := fnExactSignalValidRow.holds Try.pinned (OpenSpec.ofChange fnExactSignalValidWrong)

/-- 'laws.FnExactChipsOf': WHATEVER THE INPUT: true; the input reads as it did. -/
def fnExactChipsOfSpec : ChangeSpec := { name := "fnExactChipsOf", fn := fun _ => fun
  | [d] => { results := [.lit (.bool true)], args := [d] }
  | _ => none }
def fnExactChipsOfRow : OpenClaim := { program := "ytkikhgmglacflaa", sum := "2ed967b1853fca2fa977e4c1b75a17f86ff0d3ac01b4c0dad468dd7d256124cf", func := "loop.example/spreadspectrum/laws.FnExactChipsOf", spec := "fnExactChipsOf", apart := false }
def FnExactChipsOfSaid : Prop := fnExactChipsOfRow.holds Try.pinned (OpenSpec.ofChange fnExactChipsOfSpec)

/-- ITS FALSE NEIGHBOUR: 'it returns false'. Refute it at one input. -/
def fnExactChipsOfWrong : ChangeSpec := { name := "fnExactChipsOf", fn := fun _ => fun
  | [d] => { results := [.lit (.bool false)], args := [d] }
  | _ => none }
def FnExactChipsOfWrongFalsely : Prop := fnExactChipsOfRow.holds Try.pinned (OpenSpec.ofChange fnExactChipsOfWrong)

/-- 'laws.FnExactSignsOf': WHATEVER THE INPUT: true; the input reads as it did. -/
def fnExactSignsOfSpec : ChangeSpec := { name := "fnExactSignsOf", fn := fun _ => fun
  | [d] => { results := [.lit (.bool true)], args := [d] }
  | _ => none }
def fnExactSignsOfRow : OpenClaim := { program := "ytkikhgmglacflaa", sum := "2ed967b1853fca2fa977e4c1b75a17f86ff0d3ac01b4c0dad468dd7d256124cf", func := "loop.example/spreadspectrum/laws.FnExactSignsOf", spec := "fnExactSignsOf", apart := false }
def FnExactSignsOfSaid : Prop := fnExactSignsOfRow.holds Try.pinned (OpenSpec.ofChange fnExactSignsOfSpec)

/-- ITS FALSE NEIGHBOUR: 'it returns false'. Refute it at one input. -/
def fnExactSignsOfWrong : ChangeSpec := { name := "fnExactSignsOf", fn := fun _ => fun
  | [d] => { results := [.lit (.bool false)], args := [d] }
  | _ => none }
def FnExactSignsOfWrongFalsely : Prop := fnExactSignsOfRow.holds Try.pinned (OpenSpec.ofChange fnExactSignsOfWrong)

/-- 'laws.FnExactSpreadBits': WHATEVER THE INPUT: true; the input reads as it did. -/
def fnExactSpreadBitsSpec : ChangeSpec := { name := "fnExactSpreadBits", fn := fun _ => fun
  | [d1, d2] => { results := [.lit (.bool true)], args := [d1, d2] }
  | _ => none }
def fnExactSpreadBitsRow : OpenClaim := { program := "ytkikhgmglacflaa", sum := "2ed967b1853fca2fa977e4c1b75a17f86ff0d3ac01b4c0dad468dd7d256124cf", func := "loop.example/spreadspectrum/laws.FnExactSpreadBits", spec := "fnExactSpreadBits", apart := false }
def FnExactSpreadBitsSaid : Prop := fnExactSpreadBitsRow.holds Try.pinned (OpenSpec.ofChange fnExactSpreadBitsSpec)

/-- ITS FALSE NEIGHBOUR: 'it returns false'. Refute it at one input. -/
def fnExactSpreadBitsWrong : ChangeSpec := { name := "fnExactSpreadBits", fn := fun _ => fun
  | [d1, d2] => { results := [.lit (.bool false)], args := [d1, d2] }
  | _ => none }
def FnExactSpreadBitsWrongFalsely : Prop := fnExactSpreadBitsRow.holds Try.pinned (OpenSpec.ofChange fnExactSpreadBitsWrong)

/-- 'laws.FnExactDespreadSignal': WHATEVER THE INPUT: true; the input reads as it did. -/
def fnExactDespreadSignalSpec : ChangeSpec := { name := "fnExactDespreadSignal", fn := fun _ => fun
  | [d1, d2, d3] => { results := [.lit (.bool true)], args := [d1, d2, d3] }
  | _ => none }
def fnExactDespreadSignalRow : OpenClaim := { program := "ytkikhgmglacflaa", sum := "2ed967b1853fca2fa977e4c1b75a17f86ff0d3ac01b4c0dad468dd7d256124cf", func := "loop.example/spreadspectrum/laws.FnExactDespreadSignal", spec := "fnExactDespreadSignal", apart := false }
def FnExactDespreadSignalSaid : Prop := fnExactDespreadSignalRow.holds Try.pinned (OpenSpec.ofChange fnExactDespreadSignalSpec)

/-- ITS FALSE NEIGHBOUR: 'it returns false'. Refute it at one input. -/
def fnExactDespreadSignalWrong : ChangeSpec := { name := "fnExactDespreadSignal", fn := fun _ => fun
  | [d1, d2, d3] => { results := [.lit (.bool false)], args := [d1, d2, d3] }
  | _ => none }
def FnExactDespreadSignalWrongFalsely : Prop := fnExactDespreadSignalRow.holds Try.pinned (OpenSpec.ofChange fnExactDespreadSignalWrong)

/-- 'laws.FnExactAddSignals': WHATEVER THE INPUT: true; the input reads as it did. -/
def fnExactAddSignalsSpec : ChangeSpec := { name := "fnExactAddSignals", fn := fun _ => fun
  | [d1, d2] => { results := [.lit (.bool true)], args := [d1, d2] }
  | _ => none }
def fnExactAddSignalsRow : OpenClaim := { program := "ytkikhgmglacflaa", sum := "2ed967b1853fca2fa977e4c1b75a17f86ff0d3ac01b4c0dad468dd7d256124cf", func := "loop.example/spreadspectrum/laws.FnExactAddSignals", spec := "fnExactAddSignals", apart := false }
def FnExactAddSignalsSaid : Prop := fnExactAddSignalsRow.holds Try.pinned (OpenSpec.ofChange fnExactAddSignalsSpec)

/-- ITS FALSE NEIGHBOUR: 'it returns false'. Refute it at one input. -/
def fnExactAddSignalsWrong : ChangeSpec := { name := "fnExactAddSignals", fn := fun _ => fun
  | [d1, d2] => { results := [.lit (.bool false)], args := [d1, d2] }
  | _ => none }
def FnExactAddSignalsWrongFalsely : Prop := fnExactAddSignalsRow.holds Try.pinned (OpenSpec.ofChange fnExactAddSignalsWrong)

/-- 'laws.FnExactScaleSignal': WHATEVER THE INPUT: true; the input reads as it did. -/
def fnExactScaleSignalSpec : ChangeSpec := { name := "fnExactScaleSignal", fn := fun _ => fun
  | [d1, d2] => { results := [.lit (.bool true)], args := [d1, d2] }
  | _ => none }
def fnExactScaleSignalRow : OpenClaim := { program := "ytkikhgmglacflaa", sum := "2ed967b1853fca2fa977e4c1b75a17f86ff0d3ac01b4c0dad468dd7d256124cf", func := "loop.example/spreadspectrum/laws.FnExactScaleSignal", spec := "fnExactScaleSignal", apart := false }
def FnExactScaleSignalSaid : Prop := fnExactScaleSignalRow.holds Try.pinned (OpenSpec.ofChange fnExactScaleSignalSpec)

/-- ITS FALSE NEIGHBOUR: 'it returns false'. Refute it at one input. -/
def fnExactScaleSignalWrong : ChangeSpec := { name := "fnExactScaleSignal", fn := fun _ => fun
  | [d1, d2] => { results := [.lit (.bool false)], args := [d1, d2] }
  | _ => none }
def FnExactScaleSignalWrongFalsely : Prop := fnExactScaleSignalRow.holds Try.pinned (OpenSpec.ofChange fnExactScaleSignalWrong)

/-- 'laws.FnExactDelaySignal': WHATEVER THE INPUT: true; the input reads as it did. -/
def fnExactDelaySignalSpec : ChangeSpec := { name := "fnExactDelaySignal", fn := fun _ => fun
  | [d1, d2] => { results := [.lit (.bool true)], args := [d1, d2] }
  | _ => none }
def fnExactDelaySignalRow : OpenClaim := { program := "ytkikhgmglacflaa", sum := "2ed967b1853fca2fa977e4c1b75a17f86ff0d3ac01b4c0dad468dd7d256124cf", func := "loop.example/spreadspectrum/laws.FnExactDelaySignal", spec := "fnExactDelaySignal", apart := false }
def FnExactDelaySignalSaid : Prop := fnExactDelaySignalRow.holds Try.pinned (OpenSpec.ofChange fnExactDelaySignalSpec)

/-- ITS FALSE NEIGHBOUR: 'it returns false'. Refute it at one input. -/
def fnExactDelaySignalWrong : ChangeSpec := { name := "fnExactDelaySignal", fn := fun _ => fun
  | [d1, d2] => { results := [.lit (.bool false)], args := [d1, d2] }
  | _ => none }
def FnExactDelaySignalWrongFalsely : Prop := fnExactDelaySignalRow.holds Try.pinned (OpenSpec.ofChange fnExactDelaySignalWrong)

/-- 'laws.FnExactCutSignal': WHATEVER THE INPUT: true; the input reads as it did. -/
def fnExactCutSignalSpec : ChangeSpec := { name := "fnExactCutSignal", fn := fun _ => fun
  | [d1, d2, d3] => { results := [.lit (.bool true)], args := [d1, d2, d3] }
  | _ => none }
def fnExactCutSignalRow : OpenClaim := { program := "ytkikhgmglacflaa", sum := "2ed967b1853fca2fa977e4c1b75a17f86ff0d3ac01b4c0dad468dd7d256124cf", func := "loop.example/spreadspectrum/laws.FnExactCutSignal", spec := "fnExactCutSignal", apart := false }
def FnExactCutSignalSaid : Prop := fnExactCutSignalRow.holds Try.pinned (OpenSpec.ofChange fnExactCutSignalSpec)

/-- ITS FALSE NEIGHBOUR: 'it returns false'. Refute it at one input. -/
def fnExactCutSignalWrong : ChangeSpec := { name := "fnExactCutSignal", fn := fun _ => fun
  | [d1, d2, d3] => { results := [.lit (.bool false)], args := [d1, d2, d3] }
  | _ => none }
def FnExactCutSignalWrongFalsely : Prop := fnExactCutSignalRow.holds Try.pinned (OpenSpec.ofChange fnExactCutSignalWrong)

/-- 'laws.FnExactClipSignal': WHATEVER THE INPUT: true; the input reads as it did. -/
def fnExactClipSignalSpec : ChangeSpec := { name := "fnExactClipSignal", fn := fun _ => fun
  | [d1, d2] => { results := [.lit (.bool true)], args := [d1, d2] }
  | _ => none }
def fnExactClipSignalRow : OpenClaim := { program := "ytkikhgmglacflaa", sum := "2ed967b1853fca2fa977e4c1b75a17f86ff0d3ac01b4c0dad468dd7d256124cf", func := "loop.example/spreadspectrum/laws.FnExactClipSignal", spec := "fnExactClipSignal", apart := false }
def FnExactClipSignalSaid : Prop := fnExactClipSignalRow.holds Try.pinned (OpenSpec.ofChange fnExactClipSignalSpec)

/-- ITS FALSE NEIGHBOUR: 'it returns false'. Refute it at one input. -/
def fnExactClipSignalWrong : ChangeSpec := { name := "fnExactClipSignal", fn := fun _ => fun
  | [d1, d2] => { results := [.lit (.bool false)], args := [d1, d2] }
  | _ => none }
def FnExactClipSignalWrongFalsely : Prop := fnExactClipSignalRow.holds Try.pinned (OpenSpec.ofChange fnExactClipSignalWrong)

/-- 'laws.FnExactEnergyOf': WHATEVER THE INPUT: true; the input reads as it did. -/
def fnExactEnergyOfSpec : ChangeSpec := { name := "fnExactEnergyOf", fn := fun _ => fun
  | [d] => { results := [.lit (.bool true)], args := [d] }
  | _ => none }
def fnExactEnergyOfRow : OpenClaim := { program := "ytkikhgmglacflaa", sum := "2ed967b1853fca2fa977e4c1b75a17f86ff0d3ac01b4c0dad468dd7d256124cf", func := "loop.example/spreadspectrum/laws.FnExactEnergyOf", spec := "fnExactEnergyOf", apart := false }
def FnExactEnergyOfSaid : Prop := fnExactEnergyOfRow.holds Try.pinned (OpenSpec.ofChange fnExactEnergyOfSpec)

/-- ITS FALSE NEIGHBOUR: 'it returns false'. Refute it at one input. -/
def fnExactEnergyOfWrong : ChangeSpec := { name := "fnExactEnergyOf", fn := fun _ => fun
  | [d] => { results := [.lit (.bool false)], args := [d] }
  | _ => none }
def FnExactEnergyOfWrongFalsely : Prop := fnExactEnergyOfRow.holds Try.pinned (OpenSpec.ofChange fnExactEnergyOfWrong)

/-- 'laws.FnExactBitErrors': WHATEVER THE INPUT: true; the input reads as it did. -/
def fnExactBitErrorsSpec : ChangeSpec := { name := "fnExactBitErrors", fn := fun _ => fun
  | [d1, d2] => { results := [.lit (.bool true)], args := [d1, d2] }
  | _ => none }
def fnExactBitErrorsRow : OpenClaim := { program := "ytkikhgmglacflaa", sum := "2ed967b1853fca2fa977e4c1b75a17f86ff0d3ac01b4c0dad468dd7d256124cf", func := "loop.example/spreadspectrum/laws.FnExactBitErrors", spec := "fnExactBitErrors", apart := false }
def FnExactBitErrorsSaid : Prop := fnExactBitErrorsRow.holds Try.pinned (OpenSpec.ofChange fnExactBitErrorsSpec)

/-- ITS FALSE NEIGHBOUR: 'it returns false'. Refute it at one input. -/
def fnExactBitErrorsWrong : ChangeSpec := { name := "fnExactBitErrors", fn := fun _ => fun
  | [d1, d2] => { results := [.lit (.bool false)], args := [d1, d2] }
  | _ => none }
def FnExactBitErrorsWrongFalsely : Prop := fnExactBitErrorsRow.holds Try.pinned (OpenSpec.ofChange fnExactBitErrorsWrong)

/-- 'laws.FnExactReceiveUser': WHATEVER THE INPUT: true; the input reads as it did. -/
def fnExactReceiveUserSpec : ChangeSpec := { name := "fnExactReceiveUser", fn := fun _ => fun
  | [d1, d2, d3, d4] => { results := [.lit (.bool true)], args := [d1, d2, d3, d4] }
  | _ => none }
def fnExactReceiveUserRow : OpenClaim := { program := "ytkikhgmglacflaa", sum := "2ed967b1853fca2fa977e4c1b75a17f86ff0d3ac01b4c0dad468dd7d256124cf", func := "loop.example/spreadspectrum/laws.FnExactReceiveUser", spec := "fnExactReceiveUser", apart := false }
def FnExactReceiveUserSaid : Prop := fnExactReceiveUserRow.holds Try.pinned (OpenSpec.ofChange fnExactReceiveUserSpec)

/-- ITS FALSE NEIGHBOUR: 'it returns false'. Refute it at one input. -/
def fnExactReceiveUserWrong : ChangeSpec := { name := "fnExactReceiveUser", fn := fun _ => fun
  | [d1, d2, d3, d4] => { results := [.lit (.bool false)], args := [d1, d2, d3, d4] }
  | _ => none }
def FnExactReceiveUserWrongFalsely : Prop := fnExactReceiveUserRow.holds Try.pinned (OpenSpec.ofChange fnExactReceiveUserWrong)

/-- 'laws.FnExactMarginOf': WHATEVER THE INPUT: true; the input reads as it did. -/
def fnExactMarginOfSpec : ChangeSpec := { name := "fnExactMarginOf", fn := fun _ => fun
  | [d1, d2, d3, d4] => { results := [.lit (.bool true)], args := [d1, d2, d3, d4] }
  | _ => none }
def fnExactMarginOfRow : OpenClaim := { program := "ytkikhgmglacflaa", sum := "2ed967b1853fca2fa977e4c1b75a17f86ff0d3ac01b4c0dad468dd7d256124cf", func := "loop.example/spreadspectrum/laws.FnExactMarginOf", spec := "fnExactMarginOf", apart := false }
def FnExactMarginOfSaid : Prop := fnExactMarginOfRow.holds Try.pinned (OpenSpec.ofChange fnExactMarginOfSpec)

/-- ITS FALSE NEIGHBOUR: 'it returns false'. Refute it at one input. -/
def fnExactMarginOfWrong : ChangeSpec := { name := "fnExactMarginOf", fn := fun _ => fun
  | [d1, d2, d3, d4] => { results := [.lit (.bool false)], args := [d1, d2, d3, d4] }
  | _ => none }
def FnExactMarginOfWrongFalsely : Prop := fnExactMarginOfRow.holds Try.pinned (OpenSpec.ofChange fnExactMarginOfWrong)

/- THE SECOND FORM. 'bulk': how many values and letters a reading holds, each counted each time it is reached (what is shared counts as often as it is met; a slice's spare places count too). A statement '..UptoSaid' is the law's where the arguments, and the package variables that the reading takes, are together of bulk at most 1048576: NARROWER than '..Said'. Prove '..Said' where nothing that the law and all that it calls make is longer than what came in: it says more and counts as full. Else prove '..UptoSaid'. A law counts once. -/
mutual
def uptoBulk {H : Type} : DataW H → Nat
  | .lit (.string bytes) => bytes.length + 1
  | .lit _ => 1
  | .nil => 1
  | .ptr d => uptoBulk d + 1
  | .slice elems spare => uptoBulkAll elems + uptoBulkAll spare + 1
  | .agg parts => uptoBulkAll parts + 1
  | .iface _ d => uptoBulk d + 1
  | .map entries => uptoBulkEntries entries + 1
  | .held _ => 1
def uptoBulkAll {H : Type} : List (DataW H) → Nat
  | [] => 0
  | d :: r => uptoBulk d + uptoBulkAll r
def uptoBulkEntries {H : Type} : List (Lit × DataW H) → Nat
  | [] => 0
  | x :: r => uptoBulkEntry x + uptoBulkEntries r
def uptoBulkEntry {H : Type} : Lit × DataW H → Nat
  | (.string bytes, d) => bytes.length + uptoBulk d + 1
  | (_, d) => uptoBulk d + 1
 end
def uptoSmall : (H : Type) → List (DataW H) → Bool := fun _ ds => decide (uptoBulkAll ds ≤ 1048576)
def OpenSpec.upto (s : _root_.Go.ChangeSpec) : _root_.Go.OpenSpec := { _root_.Go.OpenSpec.ofChange s with cond := some uptoSmall }

/-- 'laws.FnExactSignalValid', WHERE WHAT IT READS IS OF BULK AT MOST 1048576: true; the input reads as it did. -/
def fnExactSignalValidUptoRow : OpenClaim := { program := "ytkikhgmglacflaa", sum := "2ed967b1853fca2fa977e4c1b75a17f86ff0d3ac01b4c0dad468dd7d256124cf", func := "loop.example/spreadspectrum/laws.FnExactSignalValid", spec := "fnExactSignalValid", apart := false, narrowed := true }
def FnExactSignalValidUptoSaid : Prop := fnExactSignalValidUptoRow.holds Try.pinned (OpenSpec.upto fnExactSignalValidSpec)

/-- 'laws.FnExactChipsOf', WHERE WHAT IT READS IS OF BULK AT MOST 1048576: true; the input reads as it did. -/
def fnExactChipsOfUptoRow : OpenClaim := { program := "ytkikhgmglacflaa", sum := "2ed967b1853fca2fa977e4c1b75a17f86ff0d3ac01b4c0dad468dd7d256124cf", func := "loop.example/spreadspectrum/laws.FnExactChipsOf", spec := "fnExactChipsOf", apart := false, narrowed := true }
def FnExactChipsOfUptoSaid : Prop := fnExactChipsOfUptoRow.holds Try.pinned (OpenSpec.upto fnExactChipsOfSpec)

/-- 'laws.FnExactSignsOf', WHERE WHAT IT READS IS OF BULK AT MOST 1048576: true; the input reads as it did. -/
def fnExactSignsOfUptoRow : OpenClaim := { program := "ytkikhgmglacflaa", sum := "2ed967b1853fca2fa977e4c1b75a17f86ff0d3ac01b4c0dad468dd7d256124cf", func := "loop.example/spreadspectrum/laws.FnExactSignsOf", spec := "fnExactSignsOf", apart := false, narrowed := true }
def FnExactSignsOfUptoSaid : Prop := fnExactSignsOfUptoRow.holds Try.pinned (OpenSpec.upto fnExactSignsOfSpec)

/-- 'laws.FnExactSpreadBits', WHERE WHAT IT READS IS OF BULK AT MOST 1048576: true; the input reads as it did. -/
def fnExactSpreadBitsUptoRow : OpenClaim := { program := "ytkikhgmglacflaa", sum := "2ed967b1853fca2fa977e4c1b75a17f86ff0d3ac01b4c0dad468dd7d256124cf", func := "loop.example/spreadspectrum/laws.FnExactSpreadBits", spec := "fnExactSpreadBits", apart := false, narrowed := true }
def FnExactSpreadBitsUptoSaid : Prop := fnExactSpreadBitsUptoRow.holds Try.pinned (OpenSpec.upto fnExactSpreadBitsSpec)

/-- 'laws.FnExactDespreadSignal', WHERE WHAT IT READS IS OF BULK AT MOST 1048576: true; the input reads as it did. -/
def fnExactDespreadSignalUptoRow : OpenClaim := { program := "ytkikhgmglacflaa", sum := "2ed967b1853fca2fa977e4c1b75a17f86ff0d3ac01b4c0dad468dd7d256124cf", func := "loop.example/spreadspectrum/laws.FnExactDespreadSignal", spec := "fnExactDespreadSignal", apart := false, narrowed := true }
def FnExactDespreadSignalUptoSaid : Prop := fnExactDespreadSignalUptoRow.holds Try.pinned (OpenSpec.upto fnExactDespreadSignalSpec)

/-- 'laws.FnExactAddSignals', WHERE WHAT IT READS IS OF BULK AT MOST 1048576: true; the input reads as it did. -/
def fnExactAddSignalsUptoRow : OpenClaim := { program := "ytkikhgmglacflaa", sum := "2ed967b1853fca2fa977e4c1b75a17f86ff0d3ac01b4c0dad468dd7d256124cf", func := "loop.example/spreadspectrum/laws.FnExactAddSignals", spec := "fnExactAddSignals", apart := false, narrowed := true }
def FnExactAddSignalsUptoSaid : Prop := fnExactAddSignalsUptoRow.holds Try.pinned (OpenSpec.upto fnExactAddSignalsSpec)

/-- 'laws.FnExactScaleSignal', WHERE WHAT IT READS IS OF BULK AT MOST 1048576: true; the input reads as it did. -/
def fnExactScaleSignalUptoRow : OpenClaim := { program := "ytkikhgmglacflaa", sum := "2ed967b1853fca2fa977e4c1b75a17f86ff0d3ac01b4c0dad468dd7d256124cf", func := "loop.example/spreadspectrum/laws.FnExactScaleSignal", spec := "fnExactScaleSignal", apart := false, narrowed := true }
def FnExactScaleSignalUptoSaid : Prop := fnExactScaleSignalUptoRow.holds Try.pinned (OpenSpec.upto fnExactScaleSignalSpec)

/-- 'laws.FnExactDelaySignal', WHERE WHAT IT READS IS OF BULK AT MOST 1048576: true; the input reads as it did. -/
def fnExactDelaySignalUptoRow : OpenClaim := { program := "ytkikhgmglacflaa", sum := "2ed967b1853fca2fa977e4c1b75a17f86ff0d3ac01b4c0dad468dd7d256124cf", func := "loop.example/spreadspectrum/laws.FnExactDelaySignal", spec := "fnExactDelaySignal", apart := false, narrowed := true }
def FnExactDelaySignalUptoSaid : Prop := fnExactDelaySignalUptoRow.holds Try.pinned (OpenSpec.upto fnExactDelaySignalSpec)

/-- 'laws.FnExactCutSignal', WHERE WHAT IT READS IS OF BULK AT MOST 1048576: true; the input reads as it did. -/
def fnExactCutSignalUptoRow : OpenClaim := { program := "ytkikhgmglacflaa", sum := "2ed967b1853fca2fa977e4c1b75a17f86ff0d3ac01b4c0dad468dd7d256124cf", func := "loop.example/spreadspectrum/laws.FnExactCutSignal", spec := "fnExactCutSignal", apart := false, narrowed := true }
def FnExactCutSignalUptoSaid : Prop := fnExactCutSignalUptoRow.holds Try.pinned (OpenSpec.upto fnExactCutSignalSpec)

/-- 'laws.FnExactClipSignal', WHERE WHAT IT READS IS OF BULK AT MOST 1048576: true; the input reads as it did. -/
def fnExactClipSignalUptoRow : OpenClaim := { program := "ytkikhgmglacflaa", sum := "2ed967b1853fca2fa977e4c1b75a17f86ff0d3ac01b4c0dad468dd7d256124cf", func := "loop.example/spreadspectrum/laws.FnExactClipSignal", spec := "fnExactClipSignal", apart := false, narrowed := true }
def FnExactClipSignalUptoSaid : Prop := fnExactClipSignalUptoRow.holds Try.pinned (OpenSpec.upto fnExactClipSignalSpec)

/-- 'laws.FnExactEnergyOf', WHERE WHAT IT READS IS OF BULK AT MOST 1048576: true; the input reads as it did. -/
def fnExactEnergyOfUptoRow : OpenClaim := { program := "ytkikhgmglacflaa", sum := "2ed967b1853fca2fa977e4c1b75a17f86ff0d3ac01b4c0dad468dd7d256124cf", func := "loop.example/spreadspectrum/laws.FnExactEnergyOf", spec := "fnExactEnergyOf", apart := false, narrowed := true }
def FnExactEnergyOfUptoSaid : Prop := fnExactEnergyOfUptoRow.holds Try.pinned (OpenSpec.upto fnExactEnergyOfSpec)

/-- 'laws.FnExactBitErrors', WHERE WHAT IT READS IS OF BULK AT MOST 1048576: true; the input reads as it did. -/
def fnExactBitErrorsUptoRow : OpenClaim := { program := "ytkikhgmglacflaa", sum := "2ed967b1853fca2fa977e4c1b75a17f86ff0d3ac01b4c0dad468dd7d256124cf", func := "loop.example/spreadspectrum/laws.FnExactBitErrors", spec := "fnExactBitErrors", apart := false, narrowed := true }
def FnExactBitErrorsUptoSaid : Prop := fnExactBitErrorsUptoRow.holds Try.pinned (OpenSpec.upto fnExactBitErrorsSpec)

/-- 'laws.FnExactReceiveUser', WHERE WHAT IT READS IS OF BULK AT MOST 1048576: true; the input reads as it did. -/
def fnExactReceiveUserUptoRow : OpenClaim := { program := "ytkikhgmglacflaa", sum := "2ed967b1853fca2fa977e4c1b75a17f86ff0d3ac01b4c0dad468dd7d256124cf", func := "loop.example/spreadspectrum/laws.FnExactReceiveUser", spec := "fnExactReceiveUser", apart := false, narrowed := true }
def FnExactReceiveUserUptoSaid : Prop := fnExactReceiveUserUptoRow.holds Try.pinned (OpenSpec.upto fnExactReceiveUserSpec)

/-- 'laws.FnExactMarginOf', WHERE WHAT IT READS IS OF BULK AT MOST 1048576: true; the input reads as it did. -/
def fnExactMarginOfUptoRow : OpenClaim := { program := "ytkikhgmglacflaa", sum := "2ed967b1853fca2fa977e4c1b75a17f86ff0d3ac01b4c0dad468dd7d256124cf", func := "loop.example/spreadspectrum/laws.FnExactMarginOf", spec := "fnExactMarginOf", apart := false, narrowed := true }
def FnExactMarginOfUptoSaid : Prop := fnExactMarginOfUptoRow.holds Try.pinned (OpenSpec.upto fnExactMarginOfSpec)

end Rows
end Go.Proofs.Ytkikhgmglacflaa
