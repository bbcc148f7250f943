/-
  No cell of these rows narrows 'for every input' (looked for: loops, veiled, ifaces, maps, wideKeys, modest, calm, conditions, laid).
  DERIVED. THE GIVEN ROWS OF THIS SEAT. 14 by the template 'for every input the law returns true; each argument reads behind the call as it read before'; 0 by the template 'total and deterministic' (their statements: YtlcnlhephhbhcaaTotals.lean).
  GIVEN WITH THE SEED: the statements are not yours to turn. If you find one false, say at which input.
  Laid BY PROGRAM, IN A SANDBOX (cutbox-rows.mjs): the forced cells as the released guide's own fill.sh prints them over the translation f856981c783c5048… (all of the seat's roots in one cut). By AI agents, Wed Nov 11 2026. No macro, syntax, notation, axiom, sorry.
-/
import Derived.Test.YtlcnlhephhbhcaaChecked
import GoSem.Claim
import GoSem.ClaimJoined
import GoSem.ClaimMapViews
import Derived.JoinedTies
import Derived.KernelRfl
namespace Go.Proofs.Ytlcnlhephhbhcaa
/- THE CELL 'sum', in the pinned program and in every row, IS THE sha256 OF THE DUMP (.gsa) THAT YtlcnlhephhbhcaaProg.lean LOADS. Nothing in Lean hashes anything: it is a label: what it is worth is what the hold of that sum in a sandbox is worth. -/
noncomputable def Try.pinned : Pinned := { name := "ytlcnlhephhbhcaa", sum := "f856981c783c50482a045f5c78f93f72d3d3b2c25de692d53730d6ed124e2d58", checked := Try.checked }
namespace Rows
def none {H : Type} : Left H := { results := [], args := [] }

/-- 'laws.FnExactUserValid': WHATEVER THE INPUT: true; the input reads as it did. -/
def fnExactUserValidSpec : ChangeSpec := { name := "fnExactUserValid", fn := fun _ => fun
  | [d] => { results := [.lit (.bool true)], args := [d] }
  | _ => none }
def fnExactUserValidRow : OpenClaim := { program := "ytlcnlhephhbhcaa", sum := "f856981c783c50482a045f5c78f93f72d3d3b2c25de692d53730d6ed124e2d58", func := "loop.example/spreadspectrum/laws.FnExactUserValid", spec := "fnExactUserValid", apart := false }
def FnExactUserValidSaid : Prop := fnExactUserValidRow.holds Try.pinned (OpenSpec.ofChange fnExactUserValidSpec)

/-- ITS FALSE NEIGHBOUR: 'it returns false'. Refute it at one input. -/
def fnExactUserValidWrong : ChangeSpec := { name := "fnExactUserValid", fn := fun _ => fun
  | [d] => { results := [.lit (.bool false)], args := [d] }
  | _ => none }
def FnExactUserValidWrongFalsely : Prop := fnExactUserValidRow.holds Try.pinned (OpenSpec.ofChange fnExactUserValidWrong)

/-- 'laws.FnExactSendAll': WHATEVER THE INPUT: true; the input reads as it did. -/
def fnExactSendAllSpec : ChangeSpec := { name := "fnExactSendAll", fn := fun _ => fun
  | [d] => { results := [.lit (.bool true)], args := [d] }
  | _ => none }
def fnExactSendAllRow : OpenClaim := { program := "ytlcnlhephhbhcaa", sum := "f856981c783c50482a045f5c78f93f72d3d3b2c25de692d53730d6ed124e2d58", func := "loop.example/spreadspectrum/laws.FnExactSendAll", spec := "fnExactSendAll", apart := false }
def FnExactSendAllSaid : Prop := fnExactSendAllRow.holds Try.pinned (OpenSpec.ofChange fnExactSendAllSpec)

/-- ITS FALSE NEIGHBOUR: 'it returns false'. Refute it at one input. -/
def fnExactSendAllWrong : ChangeSpec := { name := "fnExactSendAll", fn := fun _ => fun
  | [d] => { results := [.lit (.bool false)], args := [d] }
  | _ => none }
def FnExactSendAllWrongFalsely : Prop := fnExactSendAllRow.holds Try.pinned (OpenSpec.ofChange fnExactSendAllWrong)

/-- 'laws.FnExactRakeReceive': WHATEVER THE INPUT: true; the input reads as it did. -/
def fnExactRakeReceiveSpec : ChangeSpec := { name := "fnExactRakeReceive", fn := fun _ => fun
  | [d1, d2, d3, d4] => { results := [.lit (.bool true)], args := [d1, d2, d3, d4] }
  | _ => none }
def fnExactRakeReceiveRow : OpenClaim := { program := "ytlcnlhephhbhcaa", sum := "f856981c783c50482a045f5c78f93f72d3d3b2c25de692d53730d6ed124e2d58", func := "loop.example/spreadspectrum/laws.FnExactRakeReceive", spec := "fnExactRakeReceive", apart := false }
def FnExactRakeReceiveSaid : Prop := fnExactRakeReceiveRow.holds Try.pinned (OpenSpec.ofChange fnExactRakeReceiveSpec)

/-- ITS FALSE NEIGHBOUR: 'it returns false'. Refute it at one input. -/
def fnExactRakeReceiveWrong : ChangeSpec := { name := "fnExactRakeReceive", fn := fun _ => fun
  | [d1, d2, d3, d4] => { results := [.lit (.bool false)], args := [d1, d2, d3, d4] }
  | _ => none }
def FnExactRakeReceiveWrongFalsely : Prop := fnExactRakeReceiveRow.holds Try.pinned (OpenSpec.ofChange fnExactRakeReceiveWrong)

/-- 'laws.FnExactInterferenceBound': WHATEVER THE INPUT: true; the input reads as it did. -/
def fnExactInterferenceBoundSpec : ChangeSpec := { name := "fnExactInterferenceBound", fn := fun _ => fun
  | [d1, d2] => { results := [.lit (.bool true)], args := [d1, d2] }
  | _ => none }
def fnExactInterferenceBoundRow : OpenClaim := { program := "ytlcnlhephhbhcaa", sum := "f856981c783c50482a045f5c78f93f72d3d3b2c25de692d53730d6ed124e2d58", func := "loop.example/spreadspectrum/laws.FnExactInterferenceBound", spec := "fnExactInterferenceBound", unfollowed := true, recurses := true, apart := false }
def FnExactInterferenceBoundSaid : Prop := fnExactInterferenceBoundRow.holds Try.pinned (OpenSpec.ofChange fnExactInterferenceBoundSpec)

/-- ITS FALSE NEIGHBOUR: 'it returns false'. Refute it at one input. -/
def fnExactInterferenceBoundWrong : ChangeSpec := { name := "fnExactInterferenceBound", fn := fun _ => fun
  | [d1, d2] => { results := [.lit (.bool false)], args := [d1, d2] }
  | _ => none }
def FnExactInterferenceBoundWrongFalsely : Prop := fnExactInterferenceBoundRow.holds Try.pinned (OpenSpec.ofChange fnExactInterferenceBoundWrong)

/-- 'laws.FnChips': WHATEVER THE INPUT: true; the input reads as it did. -/
def fnChipsSpec : ChangeSpec := { name := "fnChips", fn := fun _ => fun
  | [d] => { results := [.lit (.bool true)], args := [d] }
  | _ => none }
def fnChipsRow : OpenClaim := { program := "ytlcnlhephhbhcaa", sum := "f856981c783c50482a045f5c78f93f72d3d3b2c25de692d53730d6ed124e2d58", func := "loop.example/spreadspectrum/laws.FnChips", spec := "fnChips", apart := false }
def FnChipsSaid : Prop := fnChipsRow.holds Try.pinned (OpenSpec.ofChange fnChipsSpec)

/-- ITS FALSE NEIGHBOUR: 'it returns false'. Refute it at one input. -/
def fnChipsWrong : ChangeSpec := { name := "fnChips", fn := fun _ => fun
  | [d] => { results := [.lit (.bool false)], args := [d] }
  | _ => none }
def FnChipsWrongFalsely : Prop := fnChipsRow.holds Try.pinned (OpenSpec.ofChange fnChipsWrong)

/-- 'laws.FnSigns': WHATEVER THE INPUT: true; the input reads as it did. -/
def fnSignsSpec : ChangeSpec := { name := "fnSigns", fn := fun _ => fun
  | [d1, d2] => { results := [.lit (.bool true)], args := [d1, d2] }
  | _ => none }
def fnSignsRow : OpenClaim := { program := "ytlcnlhephhbhcaa", sum := "f856981c783c50482a045f5c78f93f72d3d3b2c25de692d53730d6ed124e2d58", func := "loop.example/spreadspectrum/laws.FnSigns", spec := "fnSigns", apart := false }
def FnSignsSaid : Prop := fnSignsRow.holds Try.pinned (OpenSpec.ofChange fnSignsSpec)

/-- ITS FALSE NEIGHBOUR: 'it returns false'. Refute it at one input. -/
def fnSignsWrong : ChangeSpec := { name := "fnSigns", fn := fun _ => fun
  | [d1, d2] => { results := [.lit (.bool false)], args := [d1, d2] }
  | _ => none }
def FnSignsWrongFalsely : Prop := fnSignsRow.holds Try.pinned (OpenSpec.ofChange fnSignsWrong)

/-- 'laws.FnScale': WHATEVER THE INPUT: true; the input reads as it did. -/
def fnScaleSpec : ChangeSpec := { name := "fnScale", fn := fun _ => fun
  | [d1, d2] => { results := [.lit (.bool true)], args := [d1, d2] }
  | _ => none }
def fnScaleRow : OpenClaim := { program := "ytlcnlhephhbhcaa", sum := "f856981c783c50482a045f5c78f93f72d3d3b2c25de692d53730d6ed124e2d58", func := "loop.example/spreadspectrum/laws.FnScale", spec := "fnScale", apart := false }
def FnScaleSaid : Prop := fnScaleRow.holds Try.pinned (OpenSpec.ofChange fnScaleSpec)

/-- ITS FALSE NEIGHBOUR: 'it returns false'. Refute it at one input. -/
def fnScaleWrong : ChangeSpec := { name := "fnScale", fn := fun _ => fun
  | [d1, d2] => { results := [.lit (.bool false)], args := [d1, d2] }
  | _ => none }
def FnScaleWrongFalsely : Prop := fnScaleRow.holds Try.pinned (OpenSpec.ofChange fnScaleWrong)

/-- 'laws.FnDelay': WHATEVER THE INPUT: true; the input reads as it did. -/
def fnDelaySpec : ChangeSpec := { name := "fnDelay", fn := fun _ => fun
  | [d] => { results := [.lit (.bool true)], args := [d] }
  | _ => none }
def fnDelayRow : OpenClaim := { program := "ytlcnlhephhbhcaa", sum := "f856981c783c50482a045f5c78f93f72d3d3b2c25de692d53730d6ed124e2d58", func := "loop.example/spreadspectrum/laws.FnDelay", spec := "fnDelay", apart := false }
def FnDelaySaid : Prop := fnDelayRow.holds Try.pinned (OpenSpec.ofChange fnDelaySpec)

/-- ITS FALSE NEIGHBOUR: 'it returns false'. Refute it at one input. -/
def fnDelayWrong : ChangeSpec := { name := "fnDelay", fn := fun _ => fun
  | [d] => { results := [.lit (.bool false)], args := [d] }
  | _ => none }
def FnDelayWrongFalsely : Prop := fnDelayRow.holds Try.pinned (OpenSpec.ofChange fnDelayWrong)

/-- 'laws.FnCut': WHATEVER THE INPUT: true; the input reads as it did. -/
def fnCutSpec : ChangeSpec := { name := "fnCut", fn := fun _ => fun
  | [d] => { results := [.lit (.bool true)], args := [d] }
  | _ => none }
def fnCutRow : OpenClaim := { program := "ytlcnlhephhbhcaa", sum := "f856981c783c50482a045f5c78f93f72d3d3b2c25de692d53730d6ed124e2d58", func := "loop.example/spreadspectrum/laws.FnCut", spec := "fnCut", apart := false }
def FnCutSaid : Prop := fnCutRow.holds Try.pinned (OpenSpec.ofChange fnCutSpec)

/-- ITS FALSE NEIGHBOUR: 'it returns false'. Refute it at one input. -/
def fnCutWrong : ChangeSpec := { name := "fnCut", fn := fun _ => fun
  | [d] => { results := [.lit (.bool false)], args := [d] }
  | _ => none }
def FnCutWrongFalsely : Prop := fnCutRow.holds Try.pinned (OpenSpec.ofChange fnCutWrong)

/-- 'laws.FnClip': WHATEVER THE INPUT: true; the input reads as it did. -/
def fnClipSpec : ChangeSpec := { name := "fnClip", fn := fun _ => fun
  | [d] => { results := [.lit (.bool true)], args := [d] }
  | _ => none }
def fnClipRow : OpenClaim := { program := "ytlcnlhephhbhcaa", sum := "f856981c783c50482a045f5c78f93f72d3d3b2c25de692d53730d6ed124e2d58", func := "loop.example/spreadspectrum/laws.FnClip", spec := "fnClip", apart := false }
def FnClipSaid : Prop := fnClipRow.holds Try.pinned (OpenSpec.ofChange fnClipSpec)

/-- ITS FALSE NEIGHBOUR: 'it returns false'. Refute it at one input. -/
def fnClipWrong : ChangeSpec := { name := "fnClip", fn := fun _ => fun
  | [d] => { results := [.lit (.bool false)], args := [d] }
  | _ => none }
def FnClipWrongFalsely : Prop := fnClipRow.holds Try.pinned (OpenSpec.ofChange fnClipWrong)

/-- 'laws.FnAddSignals': WHATEVER THE INPUT: true; the input reads as it did. -/
def fnAddSignalsSpec : ChangeSpec := { name := "fnAddSignals", fn := fun _ => fun
  | [d] => { results := [.lit (.bool true)], args := [d] }
  | _ => none }
def fnAddSignalsRow : OpenClaim := { program := "ytlcnlhephhbhcaa", sum := "f856981c783c50482a045f5c78f93f72d3d3b2c25de692d53730d6ed124e2d58", func := "loop.example/spreadspectrum/laws.FnAddSignals", spec := "fnAddSignals", apart := false }
def FnAddSignalsSaid : Prop := fnAddSignalsRow.holds Try.pinned (OpenSpec.ofChange fnAddSignalsSpec)

/-- ITS FALSE NEIGHBOUR: 'it returns false'. Refute it at one input. -/
def fnAddSignalsWrong : ChangeSpec := { name := "fnAddSignals", fn := fun _ => fun
  | [d] => { results := [.lit (.bool false)], args := [d] }
  | _ => none }
def FnAddSignalsWrongFalsely : Prop := fnAddSignalsRow.holds Try.pinned (OpenSpec.ofChange fnAddSignalsWrong)

/-- 'laws.FnDespreadSum': WHATEVER THE INPUT: true; the input reads as it did. -/
def fnDespreadSumSpec : ChangeSpec := { name := "fnDespreadSum", fn := fun _ => fun
  | [d1, d2] => { results := [.lit (.bool true)], args := [d1, d2] }
  | _ => none }
def fnDespreadSumRow : OpenClaim := { program := "ytlcnlhephhbhcaa", sum := "f856981c783c50482a045f5c78f93f72d3d3b2c25de692d53730d6ed124e2d58", func := "loop.example/spreadspectrum/laws.FnDespreadSum", spec := "fnDespreadSum", apart := false }
def FnDespreadSumSaid : Prop := fnDespreadSumRow.holds Try.pinned (OpenSpec.ofChange fnDespreadSumSpec)

/-- ITS FALSE NEIGHBOUR: 'it returns false'. Refute it at one input. -/
def fnDespreadSumWrong : ChangeSpec := { name := "fnDespreadSum", fn := fun _ => fun
  | [d1, d2] => { results := [.lit (.bool false)], args := [d1, d2] }
  | _ => none }
def FnDespreadSumWrongFalsely : Prop := fnDespreadSumRow.holds Try.pinned (OpenSpec.ofChange fnDespreadSumWrong)

/-- 'laws.FnBitErrors': WHATEVER THE INPUT: true; the input reads as it did. -/
def fnBitErrorsSpec : ChangeSpec := { name := "fnBitErrors", fn := fun _ => fun
  | [d] => { results := [.lit (.bool true)], args := [d] }
  | _ => none }
def fnBitErrorsRow : OpenClaim := { program := "ytlcnlhephhbhcaa", sum := "f856981c783c50482a045f5c78f93f72d3d3b2c25de692d53730d6ed124e2d58", func := "loop.example/spreadspectrum/laws.FnBitErrors", spec := "fnBitErrors", recurses := true, apart := false }
def FnBitErrorsSaid : Prop := fnBitErrorsRow.holds Try.pinned (OpenSpec.ofChange fnBitErrorsSpec)

/-- ITS FALSE NEIGHBOUR: 'it returns false'. Refute it at one input. -/
def fnBitErrorsWrong : ChangeSpec := { name := "fnBitErrors", fn := fun _ => fun
  | [d] => { results := [.lit (.bool false)], args := [d] }
  | _ => none }
def FnBitErrorsWrongFalsely : Prop := fnBitErrorsRow.holds Try.pinned (OpenSpec.ofChange fnBitErrorsWrong)

/-- 'laws.FnSpread': WHATEVER THE INPUT: true; the input reads as it did. -/
def fnSpreadSpec : ChangeSpec := { name := "fnSpread", fn := fun _ => fun
  | [d] => { results := [.lit (.bool true)], args := [d] }
  | _ => none }
def fnSpreadRow : OpenClaim := { program := "ytlcnlhephhbhcaa", sum := "f856981c783c50482a045f5c78f93f72d3d3b2c25de692d53730d6ed124e2d58", func := "loop.example/spreadspectrum/laws.FnSpread", spec := "fnSpread", apart := false }
def FnSpreadSaid : Prop := fnSpreadRow.holds Try.pinned (OpenSpec.ofChange fnSpreadSpec)

/-- ITS FALSE NEIGHBOUR: 'it returns false'. Refute it at one input. -/
def fnSpreadWrong : ChangeSpec := { name := "fnSpread", fn := fun _ => fun
  | [d] => { results := [.lit (.bool false)], args := [d] }
  | _ => none }
def FnSpreadWrongFalsely : Prop := fnSpreadRow.holds Try.pinned (OpenSpec.ofChange fnSpreadWrong)

/- THE SECOND FORM. 'bulk': how many values and letters a reading holds, each counted each time it is reached (what is shared counts as often as it is met; a slice's spare places count too). A statement '..UptoSaid' is the law's where the arguments, and the package variables that the reading takes, are together of bulk at most 1048576: NARROWER than '..Said'. Prove '..Said' where nothing that the law and all that it calls make is longer than what came in: it says more and counts as full. Else prove '..UptoSaid'. A law counts once. -/
mutual
def uptoBulk {H : Type} : DataW H → Nat
  | .lit (.string bytes) => bytes.length + 1
  | .lit _ => 1
  | .nil => 1
  | .ptr d => uptoBulk d + 1
  | .slice elems spare => uptoBulkAll elems + uptoBulkAll spare + 1
  | .agg parts => uptoBulkAll parts + 1
  | .iface _ d => uptoBulk d + 1
  | .map entries => uptoBulkEntries entries + 1
  | .held _ => 1
def uptoBulkAll {H : Type} : List (DataW H) → Nat
  | [] => 0
  | d :: r => uptoBulk d + uptoBulkAll r
def uptoBulkEntries {H : Type} : List (Lit × DataW H) → Nat
  | [] => 0
  | x :: r => uptoBulkEntry x + uptoBulkEntries r
def uptoBulkEntry {H : Type} : Lit × DataW H → Nat
  | (.string bytes, d) => bytes.length + uptoBulk d + 1
  | (_, d) => uptoBulk d + 1
 end
def uptoSmall : (H : Type) → List (DataW H) → Bool := fun _ ds => decide (uptoBulkAll ds ≤ 1048576)
def OpenSpec.upto (s : _root_.Go.ChangeSpec) : _root_.Go.OpenSpec := { _root_.Go.OpenSpec.ofChange s with cond := some uptoSmall }

/-- 'laws.FnExactUserValid', WHERE WHAT IT READS IS OF BULK AT MOST 1048576: true; the input reads as it did. -/
def fnExactUserValidUptoRow : OpenClaim := { program := "ytlcnlhephhbhcaa", sum := "f856981c783c50482a045f5c78f93f72d3d3b2c25de692d53730d6ed124e2d58", func := "loop.example/spreadspectrum/laws.FnExactUserValid", spec := "fnExactUserValid", apart := false, narrowed := true }
def FnExactUserValidUptoSaid : Prop := fnExactUserValidUptoRow.holds Try.pinned (OpenSpec.upto fnExactUserValidSpec)

/-- 'laws.FnExactSendAll', WHERE WHAT IT READS IS OF BULK AT MOST 1048576: true; the input reads as it did. -/
def fnExactSendAllUptoRow : OpenClaim := { program := "ytlcnlhephhbhcaa", sum := "f856981c783c50482a045f5c78f93f72d3d3b2c25de692d53730d6ed124e2d58", func := "loop.example/spreadspectrum/laws.FnExactSendAll", spec := "fnExactSendAll", apart := false, narrowed := true }
def FnExactSendAllUptoSaid : Prop := fnExactSendAllUptoRow.holds Try.pinned (OpenSpec.upto fnExactSendAllSpec)

/-- 'laws.FnExactRakeReceive', WHERE WHAT IT READS IS OF BULK AT MOST 1048576: true; the input reads as it did. -/
def fnExactRakeReceiveUptoRow : OpenClaim := { program := "ytlcnlhephhbhcaa", sum := "f856981c783c50482a045f5c78f93f72d3d3b2c25de692d53730d6ed124e2d58", func := "loop.example/spreadspectrum/laws.FnExactRakeReceive", spec := "fnExactRakeReceive", apart := false, narrowed := true }
def FnExactRakeReceiveUptoSaid : Prop := fnExactRakeReceiveUptoRow.holds Try.pinned (OpenSpec.upto fnExactRakeReceiveSpec)

/-- 'laws.FnExactInterferenceBound', WHERE WHAT IT READS IS OF BULK AT MOST 1048576: true; the input reads as it did. -/
def fnExactInterferenceBoundUptoRow : OpenClaim := { program := "ytlcnlhephhbhcaa", sum := "f856981c783c50482a045f5c78f93f72d3d3b2c25de692d53730d6ed124e2d58", func := "loop.example/spreadspectrum/laws.FnExactInterferenceBound", spec := "fnExactInterferenceBound", unfollowed := true, recurses := true, apart := false, narrowed := true }
def FnExactInterferenceBoundUptoSaid : Prop := fnExactInterferenceBoundUptoRow.holds Try.pinned (OpenSpec.upto fnExactInterferenceBoundSpec)

/-- 'laws.FnChips', WHERE WHAT IT READS IS OF BULK AT MOST 1048576: true; the input reads as it did. -/
def fnChipsUptoRow : OpenClaim := { program := "ytlcnlhephhbhcaa", sum := "f856981c783c50482a045f5c78f93f72d3d3b2c25de692d53730d6ed124e2d58", func := "loop.example/spreadspectrum/laws.FnChips", spec := "fnChips", apart := false, narrowed := true }
def FnChipsUptoSaid : Prop := fnChipsUptoRow.holds Try.pinned (OpenSpec.upto fnChipsSpec)

/-- 'laws.FnSigns', WHERE WHAT IT READS IS OF BULK AT MOST 1048576: true; the input reads as it did. -/
def fnSignsUptoRow : OpenClaim := { program := "ytlcnlhephhbhcaa", sum := "f856981c783c50482a045f5c78f93f72d3d3b2c25de692d53730d6ed124e2d58", func := "loop.example/spreadspectrum/laws.FnSigns", spec := "fnSigns", apart := false, narrowed := true }
def FnSignsUptoSaid : Prop := fnSignsUptoRow.holds Try.pinned (OpenSpec.upto fnSignsSpec)

/-- 'laws.FnScale', WHERE WHAT IT READS IS OF BULK AT MOST 1048576: true; the input reads as it did. -/
def fnScaleUptoRow : OpenClaim := { program := "ytlcnlhephhbhcaa", sum := "f856981c783c50482a045f5c78f93f72d3d3b2c25de692d53730d6ed124e2d58", func := "loop.example/spreadspectrum/laws.FnScale", spec := "fnScale", apart := false, narrowed := true }
def FnScaleUptoSaid : Prop := fnScaleUptoRow.holds Try.pinned (OpenSpec.upto fnScaleSpec)

/-- 'laws.FnDelay', WHERE WHAT IT READS IS OF BULK AT MOST 1048576: true; the input reads as it did. -/
def fnDelayUptoRow : OpenClaim := { program := "ytlcnlhephhbhcaa", sum := "f856981c783c50482a045f5c78f93f72d3d3b2c25de692d53730d6ed124e2d58", func := "loop.example/spreadspectrum/laws.FnDelay", spec := "fnDelay", apart := false, narrowed := true }
def FnDelayUptoSaid : Prop := fnDelayUptoRow.holds Try.pinned (OpenSpec.upto fnDelaySpec)

/-- 'laws.FnCut', WHERE WHAT IT READS IS OF BULK AT MOST 1048576: true; the input reads as it did. -/
def fnCutUptoRow : OpenClaim := { program := "ytlcnlhephhbhcaa", sum := "f856981c783c50482a045f5c78f93f72d3d3b2c25de692d53730d6ed124e2d58", func := "loop.example/spreadspectrum/laws.FnCut", spec := "fnCut", apart := false, narrowed := true }
def FnCutUptoSaid : Prop := fnCutUptoRow.holds Try.pinned (OpenSpec.upto fnCutSpec)

/-- 'laws.FnClip', WHERE WHAT IT READS IS OF BULK AT MOST 1048576: true; the input reads as it did. -/
def fnClipUptoRow : OpenClaim := { program := "ytlcnlhephhbhcaa", sum := "f856981c783c50482a045f5c78f93f72d3d3b2c25de692d53730d6ed124e2d58", func := "loop.example/spreadspectrum/laws.FnClip", spec := "fnClip", apart := false, narrowed := true }
def FnClipUptoSaid : Prop := fnClipUptoRow.holds Try.pinned (OpenSpec.upto fnClipSpec)

/-- 'laws.FnAddSignals', WHERE WHAT IT READS IS OF BULK AT MOST 1048576: true; the input reads as it did. -/
def fnAddSignalsUptoRow : OpenClaim := { program := "ytlcnlhephhbhcaa", sum := "f856981c783c50482a045f5c78f93f72d3d3b2c25de692d53730d6ed124e2d58", func := "loop.example/spreadspectrum/laws.FnAddSignals", spec := "fnAddSignals", apart := false, narrowed := true }
def FnAddSignalsUptoSaid : Prop := fnAddSignalsUptoRow.holds Try.pinned (OpenSpec.upto fnAddSignalsSpec)

/-- 'laws.FnDespreadSum', WHERE WHAT IT READS IS OF BULK AT MOST 1048576: true; the input reads as it did. -/
def fnDespreadSumUptoRow : OpenClaim := { program := "ytlcnlhephhbhcaa", sum := "f856981c783c50482a045f5c78f93f72d3d3b2c25de692d53730d6ed124e2d58", func := "loop.example/spreadspectrum/laws.FnDespreadSum", spec := "fnDespreadSum", apart := false, narrowed := true }
def FnDespreadSumUptoSaid : Prop := fnDespreadSumUptoRow.holds Try.pinned (OpenSpec.upto fnDespreadSumSpec)

/-- 'laws.FnBitErrors', WHERE WHAT IT READS IS OF BULK AT MOST 1048576: true; the input reads as it did. -/
def fnBitErrorsUptoRow : OpenClaim := { program := "ytlcnlhephhbhcaa", sum := "f856981c783c50482a045f5c78f93f72d3d3b2c25de692d53730d6ed124e2d58", func := "loop.example/spreadspectrum/laws.FnBitErrors", spec := "fnBitErrors", recurses := true, apart := false, narrowed := true }
def FnBitErrorsUptoSaid : Prop := fnBitErrorsUptoRow.holds Try.pinned (OpenSpec.upto fnBitErrorsSpec)

/-- 'laws.FnSpread', WHERE WHAT IT READS IS OF BULK AT MOST 1048576: true; the input reads as it did. -/
def fnSpreadUptoRow : OpenClaim := { program := "ytlcnlhephhbhcaa", sum := "f856981c783c50482a045f5c78f93f72d3d3b2c25de692d53730d6ed124e2d58", func := "loop.example/spreadspectrum/laws.FnSpread", spec := "fnSpread", apart := false, narrowed := true }
def FnSpreadUptoSaid : Prop := fnSpreadUptoRow.holds Try.pinned (OpenSpec.upto fnSpreadSpec)

end Rows
end Go.Proofs.Ytlcnlhephhbhcaa
