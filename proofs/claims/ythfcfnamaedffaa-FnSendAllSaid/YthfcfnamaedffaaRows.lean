/-
  No cell of these rows narrows 'for every input' (looked for: loops, veiled, ifaces, maps, wideKeys, modest, calm, conditions, laid).
  DERIVED. THE GIVEN ROWS OF THIS SEAT. 14 by the template 'for every input the law returns true; each argument reads behind the call as it read before'; 0 by the template 'total and deterministic' (their statements: YthfcfnamaedffaaTotals.lean).
  GIVEN WITH THE SEED: the statements are not yours to turn. If you find one false, say at which input.
  Laid BY PROGRAM, IN A SANDBOX (cutbox-rows.mjs): the forced cells as the released guide's own fill.sh prints them over the translation 665a4365af60b5ff… (all of the seat's roots in one cut). By AI agents, Wed Nov 11 2026. No macro, syntax, notation, axiom, sorry.
-/
import Derived.Test.YthfcfnamaedffaaChecked
import GoSem.Claim
import GoSem.ClaimJoined
import GoSem.ClaimMapViews
import Derived.JoinedTies
import Derived.KernelRfl
namespace Go.Proofs.Ythfcfnamaedffaa
/- THE CELL 'sum', in the pinned program and in every row, IS THE sha256 OF THE DUMP (.gsa) THAT YthfcfnamaedffaaProg.lean LOADS. Nothing in Lean hashes anything: it is a label: what it is worth is what the hold of that sum in a sandbox is worth. -/
noncomputable def Try.pinned : Pinned := { name := "ythfcfnamaedffaa", sum := "665a4365af60b5ffbae261a9746072b7036ed969881b613930e772f7756a13df", checked := Try.checked }
namespace Rows
def none {H : Type} : Left H := { results := [], args := [] }

/-- 'laws.FnSendAll': WHATEVER THE INPUT: true; the input reads as it did. -/
def fnSendAllSpec : ChangeSpec := { name := "fnSendAll", fn := fun _ => fun
  | [d] => { results := [.lit (.bool true)], args := [d] }
  | _ => none }
def fnSendAllRow : OpenClaim := { program := "ythfcfnamaedffaa", sum := "665a4365af60b5ffbae261a9746072b7036ed969881b613930e772f7756a13df", func := "loop.example/spreadspectrum/laws.FnSendAll", spec := "fnSendAll", apart := false }
def FnSendAllSaid : Prop := fnSendAllRow.holds Try.pinned (OpenSpec.ofChange fnSendAllSpec)

/-- ITS FALSE NEIGHBOUR: 'it returns false'. Refute it at one input. -/
def fnSendAllWrong : ChangeSpec := { name := "fnSendAll", fn := fun _ => fun
  | [d] => { results := [.lit (.bool false)], args := [d] }
  | _ => none }
def FnSendAllWrongFalsely : Prop := fnSendAllRow.holds Try.pinned (OpenSpec.ofChange fnSendAllWrong)

/-- 'laws.FnReceive': WHATEVER THE INPUT: true; the input reads as it did. -/
def fnReceiveSpec : ChangeSpec := { name := "fnReceive", fn := fun _ => fun
  | [d] => { results := [.lit (.bool true)], args := [d] }
  | _ => none }
def fnReceiveRow : OpenClaim := { program := "ythfcfnamaedffaa", sum := "665a4365af60b5ffbae261a9746072b7036ed969881b613930e772f7756a13df", func := "loop.example/spreadspectrum/laws.FnReceive", spec := "fnReceive", apart := false }
def FnReceiveSaid : Prop := fnReceiveRow.holds Try.pinned (OpenSpec.ofChange fnReceiveSpec)

/-- ITS FALSE NEIGHBOUR: 'it returns false'. Refute it at one input. -/
def fnReceiveWrong : ChangeSpec := { name := "fnReceive", fn := fun _ => fun
  | [d] => { results := [.lit (.bool false)], args := [d] }
  | _ => none }
def FnReceiveWrongFalsely : Prop := fnReceiveRow.holds Try.pinned (OpenSpec.ofChange fnReceiveWrong)

/-- 'laws.FnReceiveBits': WHATEVER THE INPUT: true; the input reads as it did. -/
def fnReceiveBitsSpec : ChangeSpec := { name := "fnReceiveBits", fn := fun _ => fun
  | [d] => { results := [.lit (.bool true)], args := [d] }
  | _ => none }
def fnReceiveBitsRow : OpenClaim := { program := "ythfcfnamaedffaa", sum := "665a4365af60b5ffbae261a9746072b7036ed969881b613930e772f7756a13df", func := "loop.example/spreadspectrum/laws.FnReceiveBits", spec := "fnReceiveBits", apart := false }
def FnReceiveBitsSaid : Prop := fnReceiveBitsRow.holds Try.pinned (OpenSpec.ofChange fnReceiveBitsSpec)

/-- ITS FALSE NEIGHBOUR: 'it returns false'. Refute it at one input. -/
def fnReceiveBitsWrong : ChangeSpec := { name := "fnReceiveBits", fn := fun _ => fun
  | [d] => { results := [.lit (.bool false)], args := [d] }
  | _ => none }
def FnReceiveBitsWrongFalsely : Prop := fnReceiveBitsRow.holds Try.pinned (OpenSpec.ofChange fnReceiveBitsWrong)

/-- 'laws.FnMargin': WHATEVER THE INPUT: true; the input reads as it did. -/
def fnMarginSpec : ChangeSpec := { name := "fnMargin", fn := fun _ => fun
  | [d] => { results := [.lit (.bool true)], args := [d] }
  | _ => none }
def fnMarginRow : OpenClaim := { program := "ythfcfnamaedffaa", sum := "665a4365af60b5ffbae261a9746072b7036ed969881b613930e772f7756a13df", func := "loop.example/spreadspectrum/laws.FnMargin", spec := "fnMargin", apart := false }
def FnMarginSaid : Prop := fnMarginRow.holds Try.pinned (OpenSpec.ofChange fnMarginSpec)

/-- ITS FALSE NEIGHBOUR: 'it returns false'. Refute it at one input. -/
def fnMarginWrong : ChangeSpec := { name := "fnMargin", fn := fun _ => fun
  | [d] => { results := [.lit (.bool false)], args := [d] }
  | _ => none }
def FnMarginWrongFalsely : Prop := fnMarginRow.holds Try.pinned (OpenSpec.ofChange fnMarginWrong)

/-- 'laws.FnRake': WHATEVER THE INPUT: true; the input reads as it did. -/
def fnRakeSpec : ChangeSpec := { name := "fnRake", fn := fun _ => fun
  | [d] => { results := [.lit (.bool true)], args := [d] }
  | _ => none }
def fnRakeRow : OpenClaim := { program := "ythfcfnamaedffaa", sum := "665a4365af60b5ffbae261a9746072b7036ed969881b613930e772f7756a13df", func := "loop.example/spreadspectrum/laws.FnRake", spec := "fnRake", apart := false }
def FnRakeSaid : Prop := fnRakeRow.holds Try.pinned (OpenSpec.ofChange fnRakeSpec)

/-- ITS FALSE NEIGHBOUR: 'it returns false'. Refute it at one input. -/
def fnRakeWrong : ChangeSpec := { name := "fnRake", fn := fun _ => fun
  | [d] => { results := [.lit (.bool false)], args := [d] }
  | _ => none }
def FnRakeWrongFalsely : Prop := fnRakeRow.holds Try.pinned (OpenSpec.ofChange fnRakeWrong)

/-- 'laws.FnBoundHolds': WHATEVER THE INPUT: true; the input reads as it did. -/
def fnBoundHoldsSpec : ChangeSpec := { name := "fnBoundHolds", fn := fun _ => fun
  | [d] => { results := [.lit (.bool true)], args := [d] }
  | _ => none }
def fnBoundHoldsRow : OpenClaim := { program := "ythfcfnamaedffaa", sum := "665a4365af60b5ffbae261a9746072b7036ed969881b613930e772f7756a13df", func := "loop.example/spreadspectrum/laws.FnBoundHolds", spec := "fnBoundHolds", unfollowed := true, recurses := true, apart := false }
def FnBoundHoldsSaid : Prop := fnBoundHoldsRow.holds Try.pinned (OpenSpec.ofChange fnBoundHoldsSpec)

/-- ITS FALSE NEIGHBOUR: 'it returns false'. Refute it at one input. -/
def fnBoundHoldsWrong : ChangeSpec := { name := "fnBoundHolds", fn := fun _ => fun
  | [d] => { results := [.lit (.bool false)], args := [d] }
  | _ => none }
def FnBoundHoldsWrongFalsely : Prop := fnBoundHoldsRow.holds Try.pinned (OpenSpec.ofChange fnBoundHoldsWrong)

/-- 'laws.FnWholeCell': WHATEVER THE INPUT: true; the input reads as it did. -/
def fnWholeCellSpec : ChangeSpec := { name := "fnWholeCell", fn := fun _ => fun
  | [d1, d2] => { results := [.lit (.bool true)], args := [d1, d2] }
  | _ => none }
def fnWholeCellRow : OpenClaim := { program := "ythfcfnamaedffaa", sum := "665a4365af60b5ffbae261a9746072b7036ed969881b613930e772f7756a13df", func := "loop.example/spreadspectrum/laws.FnWholeCell", spec := "fnWholeCell", apart := false }
def FnWholeCellSaid : Prop := fnWholeCellRow.holds Try.pinned (OpenSpec.ofChange fnWholeCellSpec)

/-- ITS FALSE NEIGHBOUR: 'it returns false'. Refute it at one input. -/
def fnWholeCellWrong : ChangeSpec := { name := "fnWholeCell", fn := fun _ => fun
  | [d1, d2] => { results := [.lit (.bool false)], args := [d1, d2] }
  | _ => none }
def FnWholeCellWrongFalsely : Prop := fnWholeCellRow.holds Try.pinned (OpenSpec.ofChange fnWholeCellWrong)

/-- 'laws.FnBarker': WHATEVER THE INPUT: true; the input reads as it did. -/
def fnBarkerSpec : ChangeSpec := { name := "fnBarker", fn := fun _ => fun
  | [d] => { results := [.lit (.bool true)], args := [d] }
  | _ => none }
def fnBarkerRow : OpenClaim := { program := "ythfcfnamaedffaa", sum := "665a4365af60b5ffbae261a9746072b7036ed969881b613930e772f7756a13df", func := "loop.example/spreadspectrum/laws.FnBarker", spec := "fnBarker", recurses := true, apart := false }
def FnBarkerSaid : Prop := fnBarkerRow.holds Try.pinned (OpenSpec.ofChange fnBarkerSpec)

/-- ITS FALSE NEIGHBOUR: 'it returns false'. Refute it at one input. -/
def fnBarkerWrong : ChangeSpec := { name := "fnBarker", fn := fun _ => fun
  | [d] => { results := [.lit (.bool false)], args := [d] }
  | _ => none }
def FnBarkerWrongFalsely : Prop := fnBarkerRow.holds Try.pinned (OpenSpec.ofChange fnBarkerWrong)

/-- 'laws.FnTreeConflict': WHATEVER THE INPUT: true; the input reads as it did. -/
def fnTreeConflictSpec : ChangeSpec := { name := "fnTreeConflict", fn := fun _ => fun
  | [d] => { results := [.lit (.bool true)], args := [d] }
  | _ => none }
def fnTreeConflictRow : OpenClaim := { program := "ythfcfnamaedffaa", sum := "665a4365af60b5ffbae261a9746072b7036ed969881b613930e772f7756a13df", func := "loop.example/spreadspectrum/laws.FnTreeConflict", spec := "fnTreeConflict", apart := false }
def FnTreeConflictSaid : Prop := fnTreeConflictRow.holds Try.pinned (OpenSpec.ofChange fnTreeConflictSpec)

/-- ITS FALSE NEIGHBOUR: 'it returns false'. Refute it at one input. -/
def fnTreeConflictWrong : ChangeSpec := { name := "fnTreeConflict", fn := fun _ => fun
  | [d] => { results := [.lit (.bool false)], args := [d] }
  | _ => none }
def FnTreeConflictWrongFalsely : Prop := fnTreeConflictRow.holds Try.pinned (OpenSpec.ofChange fnTreeConflictWrong)

/-- 'laws.FnTreeCode': WHATEVER THE INPUT: true; the input reads as it did. -/
def fnTreeCodeSpec : ChangeSpec := { name := "fnTreeCode", fn := fun _ => fun
  | [d] => { results := [.lit (.bool true)], args := [d] }
  | _ => none }
def fnTreeCodeRow : OpenClaim := { program := "ythfcfnamaedffaa", sum := "665a4365af60b5ffbae261a9746072b7036ed969881b613930e772f7756a13df", func := "loop.example/spreadspectrum/laws.FnTreeCode", spec := "fnTreeCode", apart := false }
def FnTreeCodeSaid : Prop := fnTreeCodeRow.holds Try.pinned (OpenSpec.ofChange fnTreeCodeSpec)

/-- ITS FALSE NEIGHBOUR: 'it returns false'. Refute it at one input. -/
def fnTreeCodeWrong : ChangeSpec := { name := "fnTreeCode", fn := fun _ => fun
  | [d] => { results := [.lit (.bool false)], args := [d] }
  | _ => none }
def FnTreeCodeWrongFalsely : Prop := fnTreeCodeRow.holds Try.pinned (OpenSpec.ofChange fnTreeCodeWrong)

/-- 'laws.FnWalsh': WHATEVER THE INPUT: true; the input reads as it did. -/
def fnWalshSpec : ChangeSpec := { name := "fnWalsh", fn := fun _ => fun
  | [d] => { results := [.lit (.bool true)], args := [d] }
  | _ => none }
def fnWalshRow : OpenClaim := { program := "ythfcfnamaedffaa", sum := "665a4365af60b5ffbae261a9746072b7036ed969881b613930e772f7756a13df", func := "loop.example/spreadspectrum/laws.FnWalsh", spec := "fnWalsh", apart := false }
def FnWalshSaid : Prop := fnWalshRow.holds Try.pinned (OpenSpec.ofChange fnWalshSpec)

/-- ITS FALSE NEIGHBOUR: 'it returns false'. Refute it at one input. -/
def fnWalshWrong : ChangeSpec := { name := "fnWalsh", fn := fun _ => fun
  | [d] => { results := [.lit (.bool false)], args := [d] }
  | _ => none }
def FnWalshWrongFalsely : Prop := fnWalshRow.holds Try.pinned (OpenSpec.ofChange fnWalshWrong)

/-- 'laws.FnWalshIndex': WHATEVER THE INPUT: true; the input reads as it did. -/
def fnWalshIndexSpec : ChangeSpec := { name := "fnWalshIndex", fn := fun _ => fun
  | [d] => { results := [.lit (.bool true)], args := [d] }
  | _ => none }
def fnWalshIndexRow : OpenClaim := { program := "ythfcfnamaedffaa", sum := "665a4365af60b5ffbae261a9746072b7036ed969881b613930e772f7756a13df", func := "loop.example/spreadspectrum/laws.FnWalshIndex", spec := "fnWalshIndex", apart := false }
def FnWalshIndexSaid : Prop := fnWalshIndexRow.holds Try.pinned (OpenSpec.ofChange fnWalshIndexSpec)

/-- ITS FALSE NEIGHBOUR: 'it returns false'. Refute it at one input. -/
def fnWalshIndexWrong : ChangeSpec := { name := "fnWalshIndex", fn := fun _ => fun
  | [d] => { results := [.lit (.bool false)], args := [d] }
  | _ => none }
def FnWalshIndexWrongFalsely : Prop := fnWalshIndexRow.holds Try.pinned (OpenSpec.ofChange fnWalshIndexWrong)

/-- 'laws.FnTransform': WHATEVER THE INPUT: true; the input reads as it did. -/
def fnTransformSpec : ChangeSpec := { name := "fnTransform", fn := fun _ => fun
  | [d] => { results := [.lit (.bool true)], args := [d] }
  | _ => none }
def fnTransformRow : OpenClaim := { program := "ythfcfnamaedffaa", sum := "665a4365af60b5ffbae261a9746072b7036ed969881b613930e772f7756a13df", func := "loop.example/spreadspectrum/laws.FnTransform", spec := "fnTransform", apart := false }
def FnTransformSaid : Prop := fnTransformRow.holds Try.pinned (OpenSpec.ofChange fnTransformSpec)

/-- ITS FALSE NEIGHBOUR: 'it returns false'. Refute it at one input. -/
def fnTransformWrong : ChangeSpec := { name := "fnTransform", fn := fun _ => fun
  | [d] => { results := [.lit (.bool false)], args := [d] }
  | _ => none }
def FnTransformWrongFalsely : Prop := fnTransformRow.holds Try.pinned (OpenSpec.ofChange fnTransformWrong)

/-- 'laws.FnFirstBarker': WHATEVER THE INPUT: true; the input reads as it did. -/
def fnFirstBarkerSpec : ChangeSpec := { name := "fnFirstBarker", fn := fun _ => fun
  | [d] => { results := [.lit (.bool true)], args := [d] }
  | _ => none }
def fnFirstBarkerRow : OpenClaim := { program := "ythfcfnamaedffaa", sum := "665a4365af60b5ffbae261a9746072b7036ed969881b613930e772f7756a13df", func := "loop.example/spreadspectrum/laws.FnFirstBarker", spec := "fnFirstBarker", recurses := true, apart := false }
def FnFirstBarkerSaid : Prop := fnFirstBarkerRow.holds Try.pinned (OpenSpec.ofChange fnFirstBarkerSpec)

/-- ITS FALSE NEIGHBOUR: 'it returns false'. Refute it at one input. -/
def fnFirstBarkerWrong : ChangeSpec := { name := "fnFirstBarker", fn := fun _ => fun
  | [d] => { results := [.lit (.bool false)], args := [d] }
  | _ => none }
def FnFirstBarkerWrongFalsely : Prop := fnFirstBarkerRow.holds Try.pinned (OpenSpec.ofChange fnFirstBarkerWrong)

/- THE SECOND FORM. 'bulk': how many values and letters a reading holds, each counted each time it is reached (what is shared counts as often as it is met; a slice's spare places count too). A statement '..UptoSaid' is the law's where the arguments, and the package variables that the reading takes, are together of bulk at most 1048576: NARROWER than '..Said'. Prove '..Said' where nothing that the law and all that it calls make is longer than what came in: it says more and counts as full. Else prove '..UptoSaid'. A law counts once. -/
mutual
def uptoBulk {H : Type} : DataW H → Nat
  | .lit (.string bytes) => bytes.length + 1
  | .lit _ => 1
  | .nil => 1
  | .ptr d => uptoBulk d + 1
  | .slice elems spare => uptoBulkAll elems + uptoBulkAll spare + 1
  | .agg parts => uptoBulkAll parts + 1
  | .iface _ d => uptoBulk d + 1
  | .map entries => uptoBulkEntries entries + 1
  | .held _ => 1
def uptoBulkAll {H : Type} : List (DataW H) → Nat
  | [] => 0
  | d :: r => uptoBulk d + uptoBulkAll r
def uptoBulkEntries {H : Type} : List (Lit × DataW H) → Nat
  | [] => 0
  | x :: r => uptoBulkEntry x + uptoBulkEntries r
def uptoBulkEntry {H : Type} : Lit × DataW H → Nat
  | (.string bytes, d) => bytes.length + uptoBulk d + 1
  | (_, d) => uptoBulk d + 1
 end
def uptoSmall : (H : Type) → List (DataW H) → Bool := fun _ ds => decide (uptoBulkAll ds ≤ 1048576)
def OpenSpec.upto (s : _root_.Go.ChangeSpec) : _root_.Go.OpenSpec := { _root_.Go.OpenSpec.ofChange s with cond := some uptoSmall }

/-- 'laws.FnSendAll', WHERE WHAT IT READS IS OF BULK AT MOST 1048576: true; the input reads as it did. -/
def fnSendAllUptoRow : OpenClaim := { program := "ythfcfnamaedffaa", sum := "665a4365af60b5ffbae261a9746072b7036ed969881b613930e772f7756a13df", func := "loop.example/spreadspectrum/laws.FnSendAll", spec := "fnSendAll", apart := false, narrowed := true }
def FnSendAllUptoSaid : Prop := fnSendAllUptoRow.holds Try.pinned (OpenSpec.upto fnSendAllSpec)

/-- 'laws.FnReceive', WHERE WHAT IT READS IS OF BULK AT MOST 1048576: true; the input reads as it did. -/
def fnReceiveUptoRow : OpenClaim := { program := "ythfcfnamaedffaa", sum := "665a4365af60b5ffbae261a9746072b7036ed969881b613930e772f7756a13df", func := "loop.example/spreadspectrum/laws.FnReceive", spec := "fnReceive", apart := false, narrowed := true }
def FnReceiveUptoSaid : Prop := fnReceiveUptoRow.holds Try.pinned (OpenSpec.upto fnReceiveSpec)

/-- 'laws.FnReceiveBits', WHERE WHAT IT READS IS OF BULK AT MOST 1048576: true; the input reads as it did. -/
def fnReceiveBitsUptoRow : OpenClaim := { program := "ythfcfnamaedffaa", sum := "665a4365af60b5ffbae261a9746072b7036ed969881b613930e772f7756a13df", func := "loop.example/spreadspectrum/laws.FnReceiveBits", spec := "fnReceiveBits", apart := false, narrowed := true }
def FnReceiveBitsUptoSaid : Prop := fnReceiveBitsUptoRow.holds Try.pinned (OpenSpec.upto fnReceiveBitsSpec)

/-- 'laws.FnMargin', WHERE WHAT IT READS IS OF BULK AT MOST 1048576: true; the input reads as it did. -/
def fnMarginUptoRow : OpenClaim := { program := "ythfcfnamaedffaa", sum := "665a4365af60b5ffbae261a9746072b7036ed969881b613930e772f7756a13df", func := "loop.example/spreadspectrum/laws.FnMargin", spec := "fnMargin", apart := false, narrowed := true }
def FnMarginUptoSaid : Prop := fnMarginUptoRow.holds Try.pinned (OpenSpec.upto fnMarginSpec)

/-- 'laws.FnRake', WHERE WHAT IT READS IS OF BULK AT MOST 1048576: true; the input reads as it did. -/
def fnRakeUptoRow : OpenClaim := { program := "ythfcfnamaedffaa", sum := "665a4365af60b5ffbae261a9746072b7036ed969881b613930e772f7756a13df", func := "loop.example/spreadspectrum/laws.FnRake", spec := "fnRake", apart := false, narrowed := true }
def FnRakeUptoSaid : Prop := fnRakeUptoRow.holds Try.pinned (OpenSpec.upto fnRakeSpec)

/-- 'laws.FnBoundHolds', WHERE WHAT IT READS IS OF BULK AT MOST 1048576: true; the input reads as it did. -/
def fnBoundHoldsUptoRow : OpenClaim := { program := "ythfcfnamaedffaa", sum := "665a4365af60b5ffbae261a9746072b7036ed969881b613930e772f7756a13df", func := "loop.example/spreadspectrum/laws.FnBoundHolds", spec := "fnBoundHolds", unfollowed := true, recurses := true, apart := false, narrowed := true }
def FnBoundHoldsUptoSaid : Prop := fnBoundHoldsUptoRow.holds Try.pinned (OpenSpec.upto fnBoundHoldsSpec)

/-- 'laws.FnWholeCell', WHERE WHAT IT READS IS OF BULK AT MOST 1048576: true; the input reads as it did. -/
def fnWholeCellUptoRow : OpenClaim := { program := "ythfcfnamaedffaa", sum := "665a4365af60b5ffbae261a9746072b7036ed969881b613930e772f7756a13df", func := "loop.example/spreadspectrum/laws.FnWholeCell", spec := "fnWholeCell", apart := false, narrowed := true }
def FnWholeCellUptoSaid : Prop := fnWholeCellUptoRow.holds Try.pinned (OpenSpec.upto fnWholeCellSpec)

/-- 'laws.FnBarker', WHERE WHAT IT READS IS OF BULK AT MOST 1048576: true; the input reads as it did. -/
def fnBarkerUptoRow : OpenClaim := { program := "ythfcfnamaedffaa", sum := "665a4365af60b5ffbae261a9746072b7036ed969881b613930e772f7756a13df", func := "loop.example/spreadspectrum/laws.FnBarker", spec := "fnBarker", recurses := true, apart := false, narrowed := true }
def FnBarkerUptoSaid : Prop := fnBarkerUptoRow.holds Try.pinned (OpenSpec.upto fnBarkerSpec)

/-- 'laws.FnTreeConflict', WHERE WHAT IT READS IS OF BULK AT MOST 1048576: true; the input reads as it did. -/
def fnTreeConflictUptoRow : OpenClaim := { program := "ythfcfnamaedffaa", sum := "665a4365af60b5ffbae261a9746072b7036ed969881b613930e772f7756a13df", func := "loop.example/spreadspectrum/laws.FnTreeConflict", spec := "fnTreeConflict", apart := false, narrowed := true }
def FnTreeConflictUptoSaid : Prop := fnTreeConflictUptoRow.holds Try.pinned (OpenSpec.upto fnTreeConflictSpec)

/-- 'laws.FnTreeCode', WHERE WHAT IT READS IS OF BULK AT MOST 1048576: true; the input reads as it did. -/
def fnTreeCodeUptoRow : OpenClaim := { program := "ythfcfnamaedffaa", sum := "665a4365af60b5ffbae261a9746072b7036ed969881b613930e772f7756a13df", func := "loop.example/spreadspectrum/laws.FnTreeCode", spec := "fnTreeCode", apart := false, narrowed := true }
def FnTreeCodeUptoSaid : Prop := fnTreeCodeUptoRow.holds Try.pinned (OpenSpec.upto fnTreeCodeSpec)

/-- 'laws.FnWalsh', WHERE WHAT IT READS IS OF BULK AT MOST 1048576: true; the input reads as it did. -/
def fnWalshUptoRow : OpenClaim := { program := "ythfcfnamaedffaa", sum := "665a4365af60b5ffbae261a9746072b7036ed969881b613930e772f7756a13df", func := "loop.example/spreadspectrum/laws.FnWalsh", spec := "fnWalsh", apart := false, narrowed := true }
def FnWalshUptoSaid : Prop := fnWalshUptoRow.holds Try.pinned (OpenSpec.upto fnWalshSpec)

/-- 'laws.FnWalshIndex', WHERE WHAT IT READS IS OF BULK AT MOST 1048576: true; the input reads as it did. -/
def fnWalshIndexUptoRow : OpenClaim := { program := "ythfcfnamaedffaa", sum := "665a4365af60b5ffbae261a9746072b7036ed969881b613930e772f7756a13df", func := "loop.example/spreadspectrum/laws.FnWalshIndex", spec := "fnWalshIndex", apart := false, narrowed := true }
def FnWalshIndexUptoSaid : Prop := fnWalshIndexUptoRow.holds Try.pinned (OpenSpec.upto fnWalshIndexSpec)

/-- 'laws.FnTransform', WHERE WHAT IT READS IS OF BULK AT MOST 1048576: true; the input reads as it did. -/
def fnTransformUptoRow : OpenClaim := { program := "ythfcfnamaedffaa", sum := "665a4365af60b5ffbae261a9746072b7036ed969881b613930e772f7756a13df", func := "loop.example/spreadspectrum/laws.FnTransform", spec := "fnTransform", apart := false, narrowed := true }
def FnTransformUptoSaid : Prop := fnTransformUptoRow.holds Try.pinned (OpenSpec.upto fnTransformSpec)

/-- 'laws.FnFirstBarker', WHERE WHAT IT READS IS OF BULK AT MOST 1048576: true; the input reads as it did. -/
def fnFirstBarkerUptoRow : OpenClaim := { program := "ythfcfnamaedffaa", sum := "665a4365af60b5ffbae261a9746072b7036ed969881b613930e772f7756a13df", func := "loop.example/spreadspectrum/laws.FnFirstBarker", spec := "fnFirstBarker", recurses := true, apart := false, narrowed := true }
def FnFirstBarkerUptoSaid : Prop := fnFirstBarkerUptoRow.holds Try.pinned (OpenSpec.upto fnFirstBarkerSpec)

end Rows
end Go.Proofs.Ythfcfnamaedffaa
