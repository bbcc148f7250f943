/-
  NARROWER THAN 'FOR EVERY INPUT', by the rows' own cells (each row's printed sentence says how): FnExactFindFrame: laid · FnExactAllFrames: laid · FnExactFixPolarity: laid · FnParseFrame: laid · FnFindFrame: laid · FnAllFrames: laid · FnPolarity: laid.
  DERIVED. THE GIVEN ROWS OF THIS SEAT. 7 by the template 'for every input the law returns true; each argument reads behind the call as it read before'; 0 by the template 'total and deterministic' (their statements: YtdafepfjjmdkeaaDoorTotals.lean).
  GIVEN WITH THE SEED: the statements are not yours to turn. If you find one false, say at which input.
  Laid BY PROGRAM, IN A SANDBOX (cutbox-rows.mjs): the forced cells as the released guide's own fill.sh prints them over the translation 5c267efd3c3a939e… (all of the seat's roots in one cut). By AI agents, Wed Nov 11 2026. No macro, syntax, notation, axiom, sorry.
-/
import Derived.Test.YtdafepfjjmdkeaaDoorChecked
import GoSem.Claim
import GoSem.ClaimJoined
import GoSem.ClaimMapViews
import Derived.JoinedTies
import Derived.KernelRfl
namespace Go.Proofs.YtdafepfjjmdkeaaDoor
/- THE CELL 'sum', in the pinned program and in every row, IS THE sha256 OF THE DUMP (.gsa) THAT YtdafepfjjmdkeaaDoorProg.lean LOADS. Nothing in Lean hashes anything: it is a label: what it is worth is what the hold of that sum in a sandbox is worth. -/
noncomputable def Tryd.pinned : Pinned := { name := "ytdafepfjjmdkeaadoor", sum := "5c267efd3c3a939e74719fe75e52478df4e7eb0bec2cd77fc39ac0d128dbadaa", checked := Tryd.checked }
namespace Rows
def none {H : Type} : Left H := { results := [], args := [] }

/- WHAT THE LISTED PACKAGE-LEVEL VARIABLES READ AS WHEN THE CALL BEGINS. Each datum BY PROGRAM (the guide's laid-datum.mjs) off the statement by which the dump's own 'gosem.cut.vars' lays the variable. In a bare row this is a premise. The card (YtdafepfjjmdkeaaDoorCards.lean) ties it to the program's text. -/
def laid_errors_errorType {H : Type} : DataW H := .iface "internal/reflectlite.rtype" (.agg [.ptr (.lit (.string [101, 114, 114, 111, 114]))])

/-- 'laws.FnExactFindFrame': WHATEVER THE INPUT: true; the input reads as it did. -/
def fnExactFindFrameSpec : ChangeSpec := { name := "fnExactFindFrame", fn := fun _ => fun
  | [d1, d2] => { results := [.lit (.bool true)], args := [d1, d2] }
  | _ => none }
def fnExactFindFrameRow : OpenClaim := { program := "ytdafepfjjmdkeaadoor", sum := "5c267efd3c3a939e74719fe75e52478df4e7eb0bec2cd77fc39ac0d128dbadaa", func := "loop.example/spreadspectrum/laws.FnExactFindFrame", spec := "fnExactFindFrame", inPlace := ["internal/bytealg.IndexByteString", "internal/bytealg.IndexString", "internal/reflectlite.ValueOf", "(internal/reflectlite.Value).Type", "(internal/reflectlite.Value).IsNil", "internal/reflectlite.TypeOf", "(internal/reflectlite.Value).Elem", "(internal/reflectlite.Value).Set"], unfollowed := true, recurses := true, named := ["internal/bytealg.MaxLen", "errors.errorType"], apart := false, laid := [("errors.errorType", laid_errors_errorType)] }
def FnExactFindFrameSaid : Prop := fnExactFindFrameRow.holds Tryd.pinned (OpenSpec.ofChange fnExactFindFrameSpec)

/-- ITS FALSE NEIGHBOUR: 'it returns false'. Refute it at one input. -/
def fnExactFindFrameWrong : ChangeSpec := { name := "fnExactFindFrame", fn := fun _ => fun
  | [d1, d2] => { results := [.lit (.bool false)], args := [d1, d2] }
  | _ => none }
def FnExactFindFrameWrongFalsely : Prop := fnExactFindFrameRow.holds Tryd.pinned (OpenSpec.ofChange fnExactFindFrameWrong)

/-- 'laws.FnExactAllFrames': WHATEVER THE INPUT: true; the input reads as it did. -/
def fnExactAllFramesSpec : ChangeSpec := { name := "fnExactAllFrames", fn := fun _ => fun
  | [d] => { results := [.lit (.bool true)], args := [d] }
  | _ => none }
def fnExactAllFramesRow : OpenClaim := { program := "ytdafepfjjmdkeaadoor", sum := "5c267efd3c3a939e74719fe75e52478df4e7eb0bec2cd77fc39ac0d128dbadaa", func := "loop.example/spreadspectrum/laws.FnExactAllFrames", spec := "fnExactAllFrames", inPlace := ["internal/bytealg.IndexByteString", "internal/bytealg.IndexString", "internal/reflectlite.ValueOf", "(internal/reflectlite.Value).Type", "(internal/reflectlite.Value).IsNil", "internal/reflectlite.TypeOf", "(internal/reflectlite.Value).Elem", "(internal/reflectlite.Value).Set"], unfollowed := true, recurses := true, named := ["internal/bytealg.MaxLen", "errors.errorType"], apart := false, laid := [("errors.errorType", laid_errors_errorType)] }
def FnExactAllFramesSaid : Prop := fnExactAllFramesRow.holds Tryd.pinned (OpenSpec.ofChange fnExactAllFramesSpec)

/-- ITS FALSE NEIGHBOUR: 'it returns false'. Refute it at one input. -/
def fnExactAllFramesWrong : ChangeSpec := { name := "fnExactAllFrames", fn := fun _ => fun
  | [d] => { results := [.lit (.bool false)], args := [d] }
  | _ => none }
def FnExactAllFramesWrongFalsely : Prop := fnExactAllFramesRow.holds Tryd.pinned (OpenSpec.ofChange fnExactAllFramesWrong)

/-- 'laws.FnExactFixPolarity': WHATEVER THE INPUT: true; the input reads as it did. -/
def fnExactFixPolaritySpec : ChangeSpec := { name := "fnExactFixPolarity", fn := fun _ => fun
  | [d] => { results := [.lit (.bool true)], args := [d] }
  | _ => none }
def fnExactFixPolarityRow : OpenClaim := { program := "ytdafepfjjmdkeaadoor", sum := "5c267efd3c3a939e74719fe75e52478df4e7eb0bec2cd77fc39ac0d128dbadaa", func := "loop.example/spreadspectrum/laws.FnExactFixPolarity", spec := "fnExactFixPolarity", inPlace := ["internal/bytealg.IndexByteString", "internal/bytealg.IndexString", "internal/reflectlite.ValueOf", "(internal/reflectlite.Value).Type", "(internal/reflectlite.Value).IsNil", "internal/reflectlite.TypeOf", "(internal/reflectlite.Value).Elem", "(internal/reflectlite.Value).Set"], unfollowed := true, recurses := true, named := ["internal/bytealg.MaxLen", "errors.errorType"], apart := false, laid := [("errors.errorType", laid_errors_errorType)] }
def FnExactFixPolaritySaid : Prop := fnExactFixPolarityRow.holds Tryd.pinned (OpenSpec.ofChange fnExactFixPolaritySpec)

/-- ITS FALSE NEIGHBOUR: 'it returns false'. Refute it at one input. -/
def fnExactFixPolarityWrong : ChangeSpec := { name := "fnExactFixPolarity", fn := fun _ => fun
  | [d] => { results := [.lit (.bool false)], args := [d] }
  | _ => none }
def FnExactFixPolarityWrongFalsely : Prop := fnExactFixPolarityRow.holds Tryd.pinned (OpenSpec.ofChange fnExactFixPolarityWrong)

/-- 'laws.FnParseFrame': WHATEVER THE INPUT: true; the input reads as it did. -/
def fnParseFrameSpec : ChangeSpec := { name := "fnParseFrame", fn := fun _ => fun
  | [d] => { results := [.lit (.bool true)], args := [d] }
  | _ => none }
def fnParseFrameRow : OpenClaim := { program := "ytdafepfjjmdkeaadoor", sum := "5c267efd3c3a939e74719fe75e52478df4e7eb0bec2cd77fc39ac0d128dbadaa", func := "loop.example/spreadspectrum/laws.FnParseFrame", spec := "fnParseFrame", inPlace := ["internal/bytealg.IndexByteString", "internal/bytealg.IndexString", "internal/reflectlite.ValueOf", "(internal/reflectlite.Value).Type", "(internal/reflectlite.Value).IsNil", "internal/reflectlite.TypeOf", "(internal/reflectlite.Value).Elem", "(internal/reflectlite.Value).Set"], unfollowed := true, recurses := true, named := ["internal/bytealg.MaxLen", "errors.errorType"], apart := false, laid := [("errors.errorType", laid_errors_errorType)] }
def FnParseFrameSaid : Prop := fnParseFrameRow.holds Tryd.pinned (OpenSpec.ofChange fnParseFrameSpec)

/-- ITS FALSE NEIGHBOUR: 'it returns false'. Refute it at one input. -/
def fnParseFrameWrong : ChangeSpec := { name := "fnParseFrame", fn := fun _ => fun
  | [d] => { results := [.lit (.bool false)], args := [d] }
  | _ => none }
def FnParseFrameWrongFalsely : Prop := fnParseFrameRow.holds Tryd.pinned (OpenSpec.ofChange fnParseFrameWrong)

/-- 'laws.FnFindFrame': WHATEVER THE INPUT: true; the input reads as it did. -/
def fnFindFrameSpec : ChangeSpec := { name := "fnFindFrame", fn := fun _ => fun
  | [d] => { results := [.lit (.bool true)], args := [d] }
  | _ => none }
def fnFindFrameRow : OpenClaim := { program := "ytdafepfjjmdkeaadoor", sum := "5c267efd3c3a939e74719fe75e52478df4e7eb0bec2cd77fc39ac0d128dbadaa", func := "loop.example/spreadspectrum/laws.FnFindFrame", spec := "fnFindFrame", inPlace := ["internal/bytealg.IndexByteString", "internal/bytealg.IndexString", "internal/reflectlite.ValueOf", "(internal/reflectlite.Value).Type", "(internal/reflectlite.Value).IsNil", "internal/reflectlite.TypeOf", "(internal/reflectlite.Value).Elem", "(internal/reflectlite.Value).Set"], unfollowed := true, recurses := true, named := ["internal/bytealg.MaxLen", "errors.errorType"], apart := false, laid := [("errors.errorType", laid_errors_errorType)] }
def FnFindFrameSaid : Prop := fnFindFrameRow.holds Tryd.pinned (OpenSpec.ofChange fnFindFrameSpec)

/-- ITS FALSE NEIGHBOUR: 'it returns false'. Refute it at one input. -/
def fnFindFrameWrong : ChangeSpec := { name := "fnFindFrame", fn := fun _ => fun
  | [d] => { results := [.lit (.bool false)], args := [d] }
  | _ => none }
def FnFindFrameWrongFalsely : Prop := fnFindFrameRow.holds Tryd.pinned (OpenSpec.ofChange fnFindFrameWrong)

/-- 'laws.FnAllFrames': WHATEVER THE INPUT: true; the input reads as it did. -/
def fnAllFramesSpec : ChangeSpec := { name := "fnAllFrames", fn := fun _ => fun
  | [d1, d2] => { results := [.lit (.bool true)], args := [d1, d2] }
  | _ => none }
def fnAllFramesRow : OpenClaim := { program := "ytdafepfjjmdkeaadoor", sum := "5c267efd3c3a939e74719fe75e52478df4e7eb0bec2cd77fc39ac0d128dbadaa", func := "loop.example/spreadspectrum/laws.FnAllFrames", spec := "fnAllFrames", inPlace := ["internal/bytealg.IndexByteString", "internal/bytealg.IndexString", "internal/reflectlite.ValueOf", "(internal/reflectlite.Value).Type", "(internal/reflectlite.Value).IsNil", "internal/reflectlite.TypeOf", "(internal/reflectlite.Value).Elem", "(internal/reflectlite.Value).Set"], unfollowed := true, recurses := true, named := ["internal/bytealg.MaxLen", "errors.errorType"], apart := false, laid := [("errors.errorType", laid_errors_errorType)] }
def FnAllFramesSaid : Prop := fnAllFramesRow.holds Tryd.pinned (OpenSpec.ofChange fnAllFramesSpec)

/-- ITS FALSE NEIGHBOUR: 'it returns false'. Refute it at one input. -/
def fnAllFramesWrong : ChangeSpec := { name := "fnAllFrames", fn := fun _ => fun
  | [d1, d2] => { results := [.lit (.bool false)], args := [d1, d2] }
  | _ => none }
def FnAllFramesWrongFalsely : Prop := fnAllFramesRow.holds Tryd.pinned (OpenSpec.ofChange fnAllFramesWrong)

/-- 'laws.FnPolarity': WHATEVER THE INPUT: true; the input reads as it did. -/
def fnPolaritySpec : ChangeSpec := { name := "fnPolarity", fn := fun _ => fun
  | [d] => { results := [.lit (.bool true)], args := [d] }
  | _ => none }
def fnPolarityRow : OpenClaim := { program := "ytdafepfjjmdkeaadoor", sum := "5c267efd3c3a939e74719fe75e52478df4e7eb0bec2cd77fc39ac0d128dbadaa", func := "loop.example/spreadspectrum/laws.FnPolarity", spec := "fnPolarity", inPlace := ["internal/bytealg.IndexByteString", "internal/bytealg.IndexString", "internal/reflectlite.ValueOf", "(internal/reflectlite.Value).Type", "(internal/reflectlite.Value).IsNil", "internal/reflectlite.TypeOf", "(internal/reflectlite.Value).Elem", "(internal/reflectlite.Value).Set"], unfollowed := true, recurses := true, named := ["internal/bytealg.MaxLen", "errors.errorType"], apart := false, laid := [("errors.errorType", laid_errors_errorType)] }
def FnPolaritySaid : Prop := fnPolarityRow.holds Tryd.pinned (OpenSpec.ofChange fnPolaritySpec)

/-- ITS FALSE NEIGHBOUR: 'it returns false'. Refute it at one input. -/
def fnPolarityWrong : ChangeSpec := { name := "fnPolarity", fn := fun _ => fun
  | [d] => { results := [.lit (.bool false)], args := [d] }
  | _ => none }
def FnPolarityWrongFalsely : Prop := fnPolarityRow.holds Tryd.pinned (OpenSpec.ofChange fnPolarityWrong)

/- THE SECOND FORM. 'bulk': how many values and letters a reading holds, each counted each time it is reached (what is shared counts as often as it is met; a slice's spare places count too). A statement '..UptoSaid' is the law's where the arguments, and the package variables that the reading takes, are together of bulk at most 1048576: NARROWER than '..Said'. Prove '..Said' where nothing that the law and all that it calls make is longer than what came in: it says more and counts as full. Else prove '..UptoSaid'. A law counts once. -/
mutual
def uptoBulk {H : Type} : DataW H → Nat
  | .lit (.string bytes) => bytes.length + 1
  | .lit _ => 1
  | .nil => 1
  | .ptr d => uptoBulk d + 1
  | .slice elems spare => uptoBulkAll elems + uptoBulkAll spare + 1
  | .agg parts => uptoBulkAll parts + 1
  | .iface _ d => uptoBulk d + 1
  | .map entries => uptoBulkEntries entries + 1
  | .held _ => 1
def uptoBulkAll {H : Type} : List (DataW H) → Nat
  | [] => 0
  | d :: r => uptoBulk d + uptoBulkAll r
def uptoBulkEntries {H : Type} : List (Lit × DataW H) → Nat
  | [] => 0
  | x :: r => uptoBulkEntry x + uptoBulkEntries r
def uptoBulkEntry {H : Type} : Lit × DataW H → Nat
  | (.string bytes, d) => bytes.length + uptoBulk d + 1
  | (_, d) => uptoBulk d + 1
 end
def uptoSmall : (H : Type) → List (DataW H) → Bool := fun _ ds => decide (uptoBulkAll ds ≤ 1048576)
def OpenSpec.upto (s : _root_.Go.ChangeSpec) : _root_.Go.OpenSpec := { _root_.Go.OpenSpec.ofChange s with cond := some uptoSmall }

/-- 'laws.FnExactFindFrame', WHERE WHAT IT READS IS OF BULK AT MOST 1048576: true; the input reads as it did. -/
def fnExactFindFrameUptoRow : OpenClaim := { program := "ytdafepfjjmdkeaadoor", sum := "5c267efd3c3a939e74719fe75e52478df4e7eb0bec2cd77fc39ac0d128dbadaa", func := "loop.example/spreadspectrum/laws.FnExactFindFrame", spec := "fnExactFindFrame", inPlace := ["internal/bytealg.IndexByteString", "internal/bytealg.IndexString", "internal/reflectlite.ValueOf", "(internal/reflectlite.Value).Type", "(internal/reflectlite.Value).IsNil", "internal/reflectlite.TypeOf", "(internal/reflectlite.Value).Elem", "(internal/reflectlite.Value).Set"], unfollowed := true, recurses := true, named := ["internal/bytealg.MaxLen", "errors.errorType"], apart := false, laid := [("errors.errorType", laid_errors_errorType)], narrowed := true }
def FnExactFindFrameUptoSaid : Prop := fnExactFindFrameUptoRow.holds Tryd.pinned (OpenSpec.upto fnExactFindFrameSpec)

/-- 'laws.FnExactAllFrames', WHERE WHAT IT READS IS OF BULK AT MOST 1048576: true; the input reads as it did. -/
def fnExactAllFramesUptoRow : OpenClaim := { program := "ytdafepfjjmdkeaadoor", sum := "5c267efd3c3a939e74719fe75e52478df4e7eb0bec2cd77fc39ac0d128dbadaa", func := "loop.example/spreadspectrum/laws.FnExactAllFrames", spec := "fnExactAllFrames", inPlace := ["internal/bytealg.IndexByteString", "internal/bytealg.IndexString", "internal/reflectlite.ValueOf", "(internal/reflectlite.Value).Type", "(internal/reflectlite.Value).IsNil", "internal/reflectlite.TypeOf", "(internal/reflectlite.Value).Elem", "(internal/reflectlite.Value).Set"], unfollowed := true, recurses := true, named := ["internal/bytealg.MaxLen", "errors.errorType"], apart := false, laid := [("errors.errorType", laid_errors_errorType)], narrowed := true }
def FnExactAllFramesUptoSaid : Prop := fnExactAllFramesUptoRow.holds Tryd.pinned (OpenSpec.upto fnExactAllFramesSpec)

/-- 'laws.FnExactFixPolarity', WHERE WHAT IT READS IS OF BULK AT MOST 1048576: true; the input reads as it did. -/
def fnExactFixPolarityUptoRow : OpenClaim := { program := "ytdafepfjjmdkeaadoor", sum := "5c267efd3c3a939e74719fe75e52478df4e7eb0bec2cd77fc39ac0d128dbadaa", func := "loop.example/spreadspectrum/laws.FnExactFixPolarity", spec := "fnExactFixPolarity", inPlace := ["internal/bytealg.IndexByteString", "internal/bytealg.IndexString", "internal/reflectlite.ValueOf", "(internal/reflectlite.Value).Type", "(internal/reflectlite.Value).IsNil", "internal/reflectlite.TypeOf", "(internal/reflectlite.Value).Elem", "(internal/reflectlite.Value).Set"], unfollowed := true, recurses := true, named := ["internal/bytealg.MaxLen", "errors.errorType"], apart := false, laid := [("errors.errorType", laid_errors_errorType)], narrowed := true }
def FnExactFixPolarityUptoSaid : Prop := fnExactFixPolarityUptoRow.holds Tryd.pinned (OpenSpec.upto fnExactFixPolaritySpec)

/-- 'laws.FnParseFrame', WHERE WHAT IT READS IS OF BULK AT MOST 1048576: true; the input reads as it did. -/
def fnParseFrameUptoRow : OpenClaim := { program := "ytdafepfjjmdkeaadoor", sum := "5c267efd3c3a939e74719fe75e52478df4e7eb0bec2cd77fc39ac0d128dbadaa", func := "loop.example/spreadspectrum/laws.FnParseFrame", spec := "fnParseFrame", inPlace := ["internal/bytealg.IndexByteString", "internal/bytealg.IndexString", "internal/reflectlite.ValueOf", "(internal/reflectlite.Value).Type", "(internal/reflectlite.Value).IsNil", "internal/reflectlite.TypeOf", "(internal/reflectlite.Value).Elem", "(internal/reflectlite.Value).Set"], unfollowed := true, recurses := true, named := ["internal/bytealg.MaxLen", "errors.errorType"], apart := false, laid := [("errors.errorType", laid_errors_errorType)], narrowed := true }
def FnParseFrameUptoSaid : Prop := fnParseFrameUptoRow.holds Tryd.pinned (OpenSpec.upto fnParseFrameSpec)

/-- 'laws.FnFindFrame', WHERE WHAT IT READS IS OF BULK AT MOST 1048576: true; the input reads as it did. -/
def fnFindFrameUptoRow : OpenClaim := { program := "ytdafepfjjmdkeaadoor", sum := "5c267efd3c3a939e74719fe75e52478df4e7eb0bec2cd77fc39ac0d128dbadaa", func := "loop.example/spreadspectrum/laws.FnFindFrame", spec := "fnFindFrame", inPlace := ["internal/bytealg.IndexByteString", "internal/bytealg.IndexString", "internal/reflectlite.ValueOf", "(internal/reflectlite.Value).Type", "(internal/reflectlite.Value).IsNil", "internal/reflectlite.TypeOf", "(internal/reflectlite.Value).Elem", "(internal/reflectlite.Value).Set"], unfollowed := true, recurses := true, named := ["internal/bytealg.MaxLen", "errors.errorType"], apart := false, laid := [("errors.errorType", laid_errors_errorType)], narrowed := true }
def FnFindFrameUptoSaid : Prop := fnFindFrameUptoRow.holds Tryd.pinned (OpenSpec.upto fnFindFrameSpec)

/-- 'laws.FnAllFrames', WHERE WHAT IT READS IS OF BULK AT MOST 1048576: true; the input reads as it did. -/
def fnAllFramesUptoRow : OpenClaim := { program := "ytdafepfjjmdkeaadoor", sum := "5c267efd3c3a939e74719fe75e52478df4e7eb0bec2cd77fc39ac0d128dbadaa", func := "loop.example/spreadspectrum/laws.FnAllFrames", spec := "fnAllFrames", inPlace := ["internal/bytealg.IndexByteString", "internal/bytealg.IndexString", "internal/reflectlite.ValueOf", "(internal/reflectlite.Value).Type", "(internal/reflectlite.Value).IsNil", "internal/reflectlite.TypeOf", "(internal/reflectlite.Value).Elem", "(internal/reflectlite.Value).Set"], unfollowed := true, recurses := true, named := ["internal/bytealg.MaxLen", "errors.errorType"], apart := false, laid := [("errors.errorType", laid_errors_errorType)], narrowed := true }
def FnAllFramesUptoSaid : Prop := fnAllFramesUptoRow.holds Tryd.pinned (OpenSpec.upto fnAllFramesSpec)

/-- 'laws.FnPolarity', WHERE WHAT IT READS IS OF BULK AT MOST 1048576: true; the input reads as it did. -/
def fnPolarityUptoRow : OpenClaim := { program := "ytdafepfjjmdkeaadoor", sum := "5c267efd3c3a939e74719fe75e52478df4e7eb0bec2cd77fc39ac0d128dbadaa", func := "loop.example/spreadspectrum/laws.FnPolarity", spec := "fnPolarity", inPlace := ["internal/bytealg.IndexByteString", "internal/bytealg.IndexString", "internal/reflectlite.ValueOf", "(internal/reflectlite.Value).Type", "(internal/reflectlite.Value).IsNil", "internal/reflectlite.TypeOf", "(internal/reflectlite.Value).Elem", "(internal/reflectlite.Value).Set"], unfollowed := true, recurses := true, named := ["internal/bytealg.MaxLen", "errors.errorType"], apart := false, laid := [("errors.errorType", laid_errors_errorType)], narrowed := true }
def FnPolarityUptoSaid : Prop := fnPolarityUptoRow.holds Tryd.pinned (OpenSpec.upto fnPolaritySpec)

end Rows
end Go.Proofs.YtdafepfjjmdkeaaDoor
