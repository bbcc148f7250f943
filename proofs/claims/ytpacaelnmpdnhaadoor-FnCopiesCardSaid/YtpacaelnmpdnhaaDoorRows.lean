/-
  NARROWER THAN 'FOR EVERY INPUT', by the rows' own cells (each row's printed sentence says how): FnExactLostBits: laid · FnExactCombineCopies: laid · FnExactCopiesNeeded: laid · FnSendHops: laid · FnCombine: laid · FnLost: laid · FnCopies: laid.
  DERIVED. THE GIVEN ROWS OF THIS SEAT. 7 by the template 'for every input the law returns true; each argument reads behind the call as it read before'; 0 by the template 'total and deterministic' (their statements: YtpacaelnmpdnhaaDoorTotals.lean).
  GIVEN WITH THE SEED: the statements are not yours to turn. If you find one false, say at which input.
  Laid BY PROGRAM, IN A SANDBOX (cutbox-rows.mjs): the forced cells as the released guide's own fill.sh prints them over the translation 7a1bd1df0a4768d0… (all of the seat's roots in one cut). By AI agents, Wed Nov 11 2026. No macro, syntax, notation, axiom, sorry.
-/
import Derived.Test.YtpacaelnmpdnhaaDoorChecked
import GoSem.PinnedTables
import GoSem.Claim
import GoSem.ClaimJoined
import GoSem.ClaimMapViews
import Derived.JoinedTies
import Derived.KernelRfl
namespace Go.Proofs.YtpacaelnmpdnhaaDoor
/- THE CELL 'sum', in the pinned program and in every row, IS THE sha256 OF THE DUMP (.gsa) THAT YtpacaelnmpdnhaaDoorProg.lean LOADS. Nothing in Lean hashes anything: it is a label: what it is worth is what the hold of that sum in a sandbox is worth. -/
noncomputable def Tryd.pinned : Pinned := { name := "ytpacaelnmpdnhaadoor", sum := "7a1bd1df0a4768d013f9a1e3176d973c2f10bfebafced5b83986c2793476d513", checked := Tryd.checked }
namespace Rows
def none {H : Type} : Left H := { results := [], args := [] }

/- WHAT THE LISTED PACKAGE-LEVEL VARIABLES READ AS WHEN THE CALL BEGINS. Each datum BY PROGRAM (the guide's laid-datum.mjs) off the statement by which the dump's own 'gosem.cut.vars' lays the variable. In a bare row this is a premise. The card (YtpacaelnmpdnhaaDoorCards.lean) ties it to the program's text. -/
def laid_unicode_utf8_acceptRanges {H : Type} : DataW H := .agg [.agg [.lit (.int .u8 128), .lit (.int .u8 191)], .agg [.lit (.int .u8 160), .lit (.int .u8 191)], .agg [.lit (.int .u8 128), .lit (.int .u8 159)], .agg [.lit (.int .u8 144), .lit (.int .u8 191)], .agg [.lit (.int .u8 128), .lit (.int .u8 143)], .agg [.lit (.int .u8 0), .lit (.int .u8 0)], .agg [.lit (.int .u8 0), .lit (.int .u8 0)], .agg [.lit (.int .u8 0), .lit (.int .u8 0)], .agg [.lit (.int .u8 0), .lit (.int .u8 0)], .agg [.lit (.int .u8 0), .lit (.int .u8 0)], .agg [.lit (.int .u8 0), .lit (.int .u8 0)], .agg [.lit (.int .u8 0), .lit (.int .u8 0)], .agg [.lit (.int .u8 0), .lit (.int .u8 0)], .agg [.lit (.int .u8 0), .lit (.int .u8 0)], .agg [.lit (.int .u8 0), .lit (.int .u8 0)], .agg [.lit (.int .u8 0), .lit (.int .u8 0)]]
/-- One of Go's own tables, pinned by name: the form's constant. -/
def laid_unicode_utf8_first : DataW Unit := Go.Pinned.utf8First

/-- 'laws.FnExactLostBits': WHATEVER THE INPUT: true; the input reads as it did. -/
def fnExactLostBitsSpec : ChangeSpec := { name := "fnExactLostBits", fn := fun _ => fun
  | [d] => { results := [.lit (.bool true)], args := [d] }
  | _ => none }
def fnExactLostBitsRow : OpenClaim := { program := "ytpacaelnmpdnhaadoor", sum := "7a1bd1df0a4768d013f9a1e3176d973c2f10bfebafced5b83986c2793476d513", func := "loop.example/spreadspectrum/laws.FnExactLostBits", spec := "fnExactLostBits", inPlace := ["internal/bytealg.CountString", "internal/bytealg.IndexByteString", "internal/bytealg.IndexString", "internal/abi.NoEscape", "internal/bytealg.MakeNoZero"], named := ["internal/bytealg.MaxLen", "unicode/utf8.first", "unicode/utf8.acceptRanges"], apart := false, laid := [("unicode/utf8.acceptRanges", laid_unicode_utf8_acceptRanges), ("unicode/utf8.first", laid_unicode_utf8_first)] }
def FnExactLostBitsSaid : Prop := fnExactLostBitsRow.holds Tryd.pinned (OpenSpec.ofChange fnExactLostBitsSpec)

/-- ITS FALSE NEIGHBOUR: 'it returns false'. Refute it at one input. -/
def fnExactLostBitsWrong : ChangeSpec := { name := "fnExactLostBits", fn := fun _ => fun
  | [d] => { results := [.lit (.bool false)], args := [d] }
  | _ => none }
def FnExactLostBitsWrongFalsely : Prop := fnExactLostBitsRow.holds Tryd.pinned (OpenSpec.ofChange fnExactLostBitsWrong)

/-- 'laws.FnExactCombineCopies': WHATEVER THE INPUT: true; the input reads as it did. -/
def fnExactCombineCopiesSpec : ChangeSpec := { name := "fnExactCombineCopies", fn := fun _ => fun
  | [d] => { results := [.lit (.bool true)], args := [d] }
  | _ => none }
def fnExactCombineCopiesRow : OpenClaim := { program := "ytpacaelnmpdnhaadoor", sum := "7a1bd1df0a4768d013f9a1e3176d973c2f10bfebafced5b83986c2793476d513", func := "loop.example/spreadspectrum/laws.FnExactCombineCopies", spec := "fnExactCombineCopies", inPlace := ["internal/bytealg.CountString", "internal/bytealg.IndexByteString", "internal/bytealg.IndexString", "internal/abi.NoEscape", "internal/bytealg.MakeNoZero"], named := ["internal/bytealg.MaxLen", "unicode/utf8.first", "unicode/utf8.acceptRanges"], apart := false, laid := [("unicode/utf8.acceptRanges", laid_unicode_utf8_acceptRanges), ("unicode/utf8.first", laid_unicode_utf8_first)] }
def FnExactCombineCopiesSaid : Prop := fnExactCombineCopiesRow.holds Tryd.pinned (OpenSpec.ofChange fnExactCombineCopiesSpec)

/-- ITS FALSE NEIGHBOUR: 'it returns false'. Refute it at one input. -/
def fnExactCombineCopiesWrong : ChangeSpec := { name := "fnExactCombineCopies", fn := fun _ => fun
  | [d] => { results := [.lit (.bool false)], args := [d] }
  | _ => none }
def FnExactCombineCopiesWrongFalsely : Prop := fnExactCombineCopiesRow.holds Tryd.pinned (OpenSpec.ofChange fnExactCombineCopiesWrong)

/-- 'laws.FnExactCopiesNeeded': WHATEVER THE INPUT: true; the input reads as it did. -/
def fnExactCopiesNeededSpec : ChangeSpec := { name := "fnExactCopiesNeeded", fn := fun _ => fun
  | [d1, d2, d3, d4] => { results := [.lit (.bool true)], args := [d1, d2, d3, d4] }
  | _ => none }
def fnExactCopiesNeededRow : OpenClaim := { program := "ytpacaelnmpdnhaadoor", sum := "7a1bd1df0a4768d013f9a1e3176d973c2f10bfebafced5b83986c2793476d513", func := "loop.example/spreadspectrum/laws.FnExactCopiesNeeded", spec := "fnExactCopiesNeeded", inPlace := ["internal/bytealg.CountString", "internal/bytealg.IndexByteString", "internal/bytealg.IndexString", "internal/abi.NoEscape", "internal/bytealg.MakeNoZero"], unfollowed := true, recurses := true, named := ["internal/bytealg.MaxLen", "unicode/utf8.first", "unicode/utf8.acceptRanges"], apart := false, laid := [("unicode/utf8.acceptRanges", laid_unicode_utf8_acceptRanges), ("unicode/utf8.first", laid_unicode_utf8_first)] }
def FnExactCopiesNeededSaid : Prop := fnExactCopiesNeededRow.holds Tryd.pinned (OpenSpec.ofChange fnExactCopiesNeededSpec)

/-- ITS FALSE NEIGHBOUR: 'it returns false'. Refute it at one input. -/
def fnExactCopiesNeededWrong : ChangeSpec := { name := "fnExactCopiesNeeded", fn := fun _ => fun
  | [d1, d2, d3, d4] => { results := [.lit (.bool false)], args := [d1, d2, d3, d4] }
  | _ => none }
def FnExactCopiesNeededWrongFalsely : Prop := fnExactCopiesNeededRow.holds Tryd.pinned (OpenSpec.ofChange fnExactCopiesNeededWrong)

/-- 'laws.FnSendHops': WHATEVER THE INPUT: true; the input reads as it did. -/
def fnSendHopsSpec : ChangeSpec := { name := "fnSendHops", fn := fun _ => fun
  | [d] => { results := [.lit (.bool true)], args := [d] }
  | _ => none }
def fnSendHopsRow : OpenClaim := { program := "ytpacaelnmpdnhaadoor", sum := "7a1bd1df0a4768d013f9a1e3176d973c2f10bfebafced5b83986c2793476d513", func := "loop.example/spreadspectrum/laws.FnSendHops", spec := "fnSendHops", inPlace := ["internal/bytealg.CountString", "internal/bytealg.IndexByteString", "internal/bytealg.IndexString", "internal/abi.NoEscape", "internal/bytealg.MakeNoZero"], unfollowed := true, recurses := true, named := ["internal/bytealg.MaxLen", "unicode/utf8.first", "unicode/utf8.acceptRanges"], apart := false, laid := [("unicode/utf8.acceptRanges", laid_unicode_utf8_acceptRanges), ("unicode/utf8.first", laid_unicode_utf8_first)] }
def FnSendHopsSaid : Prop := fnSendHopsRow.holds Tryd.pinned (OpenSpec.ofChange fnSendHopsSpec)

/-- ITS FALSE NEIGHBOUR: 'it returns false'. Refute it at one input. -/
def fnSendHopsWrong : ChangeSpec := { name := "fnSendHops", fn := fun _ => fun
  | [d] => { results := [.lit (.bool false)], args := [d] }
  | _ => none }
def FnSendHopsWrongFalsely : Prop := fnSendHopsRow.holds Tryd.pinned (OpenSpec.ofChange fnSendHopsWrong)

/-- 'laws.FnCombine': WHATEVER THE INPUT: true; the input reads as it did. -/
def fnCombineSpec : ChangeSpec := { name := "fnCombine", fn := fun _ => fun
  | [d] => { results := [.lit (.bool true)], args := [d] }
  | _ => none }
def fnCombineRow : OpenClaim := { program := "ytpacaelnmpdnhaadoor", sum := "7a1bd1df0a4768d013f9a1e3176d973c2f10bfebafced5b83986c2793476d513", func := "loop.example/spreadspectrum/laws.FnCombine", spec := "fnCombine", inPlace := ["internal/bytealg.CountString", "internal/bytealg.IndexByteString", "internal/bytealg.IndexString", "internal/abi.NoEscape", "internal/bytealg.MakeNoZero"], named := ["internal/bytealg.MaxLen", "unicode/utf8.first", "unicode/utf8.acceptRanges"], apart := false, laid := [("unicode/utf8.acceptRanges", laid_unicode_utf8_acceptRanges), ("unicode/utf8.first", laid_unicode_utf8_first)] }
def FnCombineSaid : Prop := fnCombineRow.holds Tryd.pinned (OpenSpec.ofChange fnCombineSpec)

/-- ITS FALSE NEIGHBOUR: 'it returns false'. Refute it at one input. -/
def fnCombineWrong : ChangeSpec := { name := "fnCombine", fn := fun _ => fun
  | [d] => { results := [.lit (.bool false)], args := [d] }
  | _ => none }
def FnCombineWrongFalsely : Prop := fnCombineRow.holds Tryd.pinned (OpenSpec.ofChange fnCombineWrong)

/-- 'laws.FnLost': WHATEVER THE INPUT: true; the input reads as it did. -/
def fnLostSpec : ChangeSpec := { name := "fnLost", fn := fun _ => fun
  | [d] => { results := [.lit (.bool true)], args := [d] }
  | _ => none }
def fnLostRow : OpenClaim := { program := "ytpacaelnmpdnhaadoor", sum := "7a1bd1df0a4768d013f9a1e3176d973c2f10bfebafced5b83986c2793476d513", func := "loop.example/spreadspectrum/laws.FnLost", spec := "fnLost", inPlace := ["internal/bytealg.CountString", "internal/bytealg.IndexByteString", "internal/bytealg.IndexString", "internal/abi.NoEscape", "internal/bytealg.MakeNoZero"], named := ["internal/bytealg.MaxLen", "unicode/utf8.first", "unicode/utf8.acceptRanges"], apart := false, laid := [("unicode/utf8.acceptRanges", laid_unicode_utf8_acceptRanges), ("unicode/utf8.first", laid_unicode_utf8_first)] }
def FnLostSaid : Prop := fnLostRow.holds Tryd.pinned (OpenSpec.ofChange fnLostSpec)

/-- ITS FALSE NEIGHBOUR: 'it returns false'. Refute it at one input. -/
def fnLostWrong : ChangeSpec := { name := "fnLost", fn := fun _ => fun
  | [d] => { results := [.lit (.bool false)], args := [d] }
  | _ => none }
def FnLostWrongFalsely : Prop := fnLostRow.holds Tryd.pinned (OpenSpec.ofChange fnLostWrong)

/-- 'laws.FnCopies': WHATEVER THE INPUT: true; the input reads as it did. -/
def fnCopiesSpec : ChangeSpec := { name := "fnCopies", fn := fun _ => fun
  | [d] => { results := [.lit (.bool true)], args := [d] }
  | _ => none }
def fnCopiesRow : OpenClaim := { program := "ytpacaelnmpdnhaadoor", sum := "7a1bd1df0a4768d013f9a1e3176d973c2f10bfebafced5b83986c2793476d513", func := "loop.example/spreadspectrum/laws.FnCopies", spec := "fnCopies", inPlace := ["internal/bytealg.CountString", "internal/bytealg.IndexByteString", "internal/bytealg.IndexString", "internal/abi.NoEscape", "internal/bytealg.MakeNoZero"], unfollowed := true, recurses := true, named := ["internal/bytealg.MaxLen", "unicode/utf8.first", "unicode/utf8.acceptRanges"], apart := false, laid := [("unicode/utf8.acceptRanges", laid_unicode_utf8_acceptRanges), ("unicode/utf8.first", laid_unicode_utf8_first)] }
def FnCopiesSaid : Prop := fnCopiesRow.holds Tryd.pinned (OpenSpec.ofChange fnCopiesSpec)

/-- ITS FALSE NEIGHBOUR: 'it returns false'. Refute it at one input. -/
def fnCopiesWrong : ChangeSpec := { name := "fnCopies", fn := fun _ => fun
  | [d] => { results := [.lit (.bool false)], args := [d] }
  | _ => none }
def FnCopiesWrongFalsely : Prop := fnCopiesRow.holds Tryd.pinned (OpenSpec.ofChange fnCopiesWrong)

/- THE SECOND FORM. 'bulk': how many values and letters a reading holds, each counted each time it is reached (what is shared counts as often as it is met; a slice's spare places count too). A statement '..UptoSaid' is the law's where the arguments, and the package variables that the reading takes, are together of bulk at most 1048576: NARROWER than '..Said'. Prove '..Said' where nothing that the law and all that it calls make is longer than what came in: it says more and counts as full. Else prove '..UptoSaid'. A law counts once. -/
mutual
def uptoBulk {H : Type} : DataW H → Nat
  | .lit (.string bytes) => bytes.length + 1
  | .lit _ => 1
  | .nil => 1
  | .ptr d => uptoBulk d + 1
  | .slice elems spare => uptoBulkAll elems + uptoBulkAll spare + 1
  | .agg parts => uptoBulkAll parts + 1
  | .iface _ d => uptoBulk d + 1
  | .map entries => uptoBulkEntries entries + 1
  | .held _ => 1
def uptoBulkAll {H : Type} : List (DataW H) → Nat
  | [] => 0
  | d :: r => uptoBulk d + uptoBulkAll r
def uptoBulkEntries {H : Type} : List (Lit × DataW H) → Nat
  | [] => 0
  | x :: r => uptoBulkEntry x + uptoBulkEntries r
def uptoBulkEntry {H : Type} : Lit × DataW H → Nat
  | (.string bytes, d) => bytes.length + uptoBulk d + 1
  | (_, d) => uptoBulk d + 1
 end
def uptoSmall : (H : Type) → List (DataW H) → Bool := fun _ ds => decide (uptoBulkAll ds ≤ 1048576)
def OpenSpec.upto (s : _root_.Go.ChangeSpec) : _root_.Go.OpenSpec := { _root_.Go.OpenSpec.ofChange s with cond := some uptoSmall }

/-- 'laws.FnExactLostBits', WHERE WHAT IT READS IS OF BULK AT MOST 1048576: true; the input reads as it did. -/
def fnExactLostBitsUptoRow : OpenClaim := { program := "ytpacaelnmpdnhaadoor", sum := "7a1bd1df0a4768d013f9a1e3176d973c2f10bfebafced5b83986c2793476d513", func := "loop.example/spreadspectrum/laws.FnExactLostBits", spec := "fnExactLostBits", inPlace := ["internal/bytealg.CountString", "internal/bytealg.IndexByteString", "internal/bytealg.IndexString", "internal/abi.NoEscape", "internal/bytealg.MakeNoZero"], named := ["internal/bytealg.MaxLen", "unicode/utf8.first", "unicode/utf8.acceptRanges"], apart := false, laid := [("unicode/utf8.acceptRanges", laid_unicode_utf8_acceptRanges), ("unicode/utf8.first", laid_unicode_utf8_first)], narrowed := true }
def FnExactLostBitsUptoSaid : Prop := fnExactLostBitsUptoRow.holds Tryd.pinned (OpenSpec.upto fnExactLostBitsSpec)

/-- 'laws.FnExactCombineCopies', WHERE WHAT IT READS IS OF BULK AT MOST 1048576: true; the input reads as it did. -/
def fnExactCombineCopiesUptoRow : OpenClaim := { program := "ytpacaelnmpdnhaadoor", sum := "7a1bd1df0a4768d013f9a1e3176d973c2f10bfebafced5b83986c2793476d513", func := "loop.example/spreadspectrum/laws.FnExactCombineCopies", spec := "fnExactCombineCopies", inPlace := ["internal/bytealg.CountString", "internal/bytealg.IndexByteString", "internal/bytealg.IndexString", "internal/abi.NoEscape", "internal/bytealg.MakeNoZero"], named := ["internal/bytealg.MaxLen", "unicode/utf8.first", "unicode/utf8.acceptRanges"], apart := false, laid := [("unicode/utf8.acceptRanges", laid_unicode_utf8_acceptRanges), ("unicode/utf8.first", laid_unicode_utf8_first)], narrowed := true }
def FnExactCombineCopiesUptoSaid : Prop := fnExactCombineCopiesUptoRow.holds Tryd.pinned (OpenSpec.upto fnExactCombineCopiesSpec)

/-- 'laws.FnExactCopiesNeeded', WHERE WHAT IT READS IS OF BULK AT MOST 1048576: true; the input reads as it did. -/
def fnExactCopiesNeededUptoRow : OpenClaim := { program := "ytpacaelnmpdnhaadoor", sum := "7a1bd1df0a4768d013f9a1e3176d973c2f10bfebafced5b83986c2793476d513", func := "loop.example/spreadspectrum/laws.FnExactCopiesNeeded", spec := "fnExactCopiesNeeded", inPlace := ["internal/bytealg.CountString", "internal/bytealg.IndexByteString", "internal/bytealg.IndexString", "internal/abi.NoEscape", "internal/bytealg.MakeNoZero"], unfollowed := true, recurses := true, named := ["internal/bytealg.MaxLen", "unicode/utf8.first", "unicode/utf8.acceptRanges"], apart := false, laid := [("unicode/utf8.acceptRanges", laid_unicode_utf8_acceptRanges), ("unicode/utf8.first", laid_unicode_utf8_first)], narrowed := true }
def FnExactCopiesNeededUptoSaid : Prop := fnExactCopiesNeededUptoRow.holds Tryd.pinned (OpenSpec.upto fnExactCopiesNeededSpec)

/-- 'laws.FnSendHops', WHERE WHAT IT READS IS OF BULK AT MOST 1048576: true; the input reads as it did. -/
def fnSendHopsUptoRow : OpenClaim := { program := "ytpacaelnmpdnhaadoor", sum := "7a1bd1df0a4768d013f9a1e3176d973c2f10bfebafced5b83986c2793476d513", func := "loop.example/spreadspectrum/laws.FnSendHops", spec := "fnSendHops", inPlace := ["internal/bytealg.CountString", "internal/bytealg.IndexByteString", "internal/bytealg.IndexString", "internal/abi.NoEscape", "internal/bytealg.MakeNoZero"], unfollowed := true, recurses := true, named := ["internal/bytealg.MaxLen", "unicode/utf8.first", "unicode/utf8.acceptRanges"], apart := false, laid := [("unicode/utf8.acceptRanges", laid_unicode_utf8_acceptRanges), ("unicode/utf8.first", laid_unicode_utf8_first)], narrowed := true }
def FnSendHopsUptoSaid : Prop := fnSendHopsUptoRow.holds Tryd.pinned (OpenSpec.upto fnSendHopsSpec)

/-- 'laws.FnCombine', WHERE WHAT IT READS IS OF BULK AT MOST 1048576: true; the input reads as it did. -/
def fnCombineUptoRow : OpenClaim := { program := "ytpacaelnmpdnhaadoor", sum := "7a1bd1df0a4768d013f9a1e3176d973c2f10bfebafced5b83986c2793476d513", func := "loop.example/spreadspectrum/laws.FnCombine", spec := "fnCombine", inPlace := ["internal/bytealg.CountString", "internal/bytealg.IndexByteString", "internal/bytealg.IndexString", "internal/abi.NoEscape", "internal/bytealg.MakeNoZero"], named := ["internal/bytealg.MaxLen", "unicode/utf8.first", "unicode/utf8.acceptRanges"], apart := false, laid := [("unicode/utf8.acceptRanges", laid_unicode_utf8_acceptRanges), ("unicode/utf8.first", laid_unicode_utf8_first)], narrowed := true }
def FnCombineUptoSaid : Prop := fnCombineUptoRow.holds Tryd.pinned (OpenSpec.upto fnCombineSpec)

/-- 'laws.FnLost', WHERE WHAT IT READS IS OF BULK AT MOST 1048576: true; the input reads as it did. -/
def fnLostUptoRow : OpenClaim := { program := "ytpacaelnmpdnhaadoor", sum := "7a1bd1df0a4768d013f9a1e3176d973c2f10bfebafced5b83986c2793476d513", func := "loop.example/spreadspectrum/laws.FnLost", spec := "fnLost", inPlace := ["internal/bytealg.CountString", "internal/bytealg.IndexByteString", "internal/bytealg.IndexString", "internal/abi.NoEscape", "internal/bytealg.MakeNoZero"], named := ["internal/bytealg.MaxLen", "unicode/utf8.first", "unicode/utf8.acceptRanges"], apart := false, laid := [("unicode/utf8.acceptRanges", laid_unicode_utf8_acceptRanges), ("unicode/utf8.first", laid_unicode_utf8_first)], narrowed := true }
def FnLostUptoSaid : Prop := fnLostUptoRow.holds Tryd.pinned (OpenSpec.upto fnLostSpec)

/-- 'laws.FnCopies', WHERE WHAT IT READS IS OF BULK AT MOST 1048576: true; the input reads as it did. -/
def fnCopiesUptoRow : OpenClaim := { program := "ytpacaelnmpdnhaadoor", sum := "7a1bd1df0a4768d013f9a1e3176d973c2f10bfebafced5b83986c2793476d513", func := "loop.example/spreadspectrum/laws.FnCopies", spec := "fnCopies", inPlace := ["internal/bytealg.CountString", "internal/bytealg.IndexByteString", "internal/bytealg.IndexString", "internal/abi.NoEscape", "internal/bytealg.MakeNoZero"], unfollowed := true, recurses := true, named := ["internal/bytealg.MaxLen", "unicode/utf8.first", "unicode/utf8.acceptRanges"], apart := false, laid := [("unicode/utf8.acceptRanges", laid_unicode_utf8_acceptRanges), ("unicode/utf8.first", laid_unicode_utf8_first)], narrowed := true }
def FnCopiesUptoSaid : Prop := fnCopiesUptoRow.holds Tryd.pinned (OpenSpec.upto fnCopiesSpec)

end Rows
end Go.Proofs.YtpacaelnmpdnhaaDoor
