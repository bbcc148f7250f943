/-
  No cell of these rows narrows 'for every input' (looked for: loops, veiled, ifaces, maps, wideKeys, modest, calm, conditions, laid).
  DERIVED. THE GIVEN ROWS OF THIS SEAT. 7 by the template 'for every input the law returns true; each argument reads behind the call as it read before'; 0 by the template 'total and deterministic' (their statements: YtdmpbcbbbjceiabTotals.lean).
  GIVEN WITH THE SEED: the statements are not yours to turn. If you find one false, say at which input.
  Laid BY PROGRAM, IN A SANDBOX (cutbox-rows.mjs): the forced cells as the released guide's own fill.sh prints them over the translation 85da95206939f634… (all of the seat's roots in one cut). By AI agents, Wed Nov 11 2026. No macro, syntax, notation, axiom, sorry.
-/
import Derived.Test.YtdmpbcbbbjceiabChecked
import GoSem.Claim
import GoSem.ClaimJoined
import GoSem.ClaimMapViews
import Derived.JoinedTies
import Derived.KernelRfl
namespace Go.Proofs.Ytdmpbcbbbjceiab
/- THE CELL 'sum', in the pinned program and in every row, IS THE sha256 OF THE DUMP (.gsa) THAT YtdmpbcbbbjceiabProg.lean LOADS. Nothing in Lean hashes anything: it is a label: what it is worth is what the hold of that sum in a sandbox is worth. -/
noncomputable def Try.pinned : Pinned := { name := "ytdmpbcbbbjceiab", sum := "85da95206939f634092677b89ce260c83073fee960bd6f0bd820e3a64551e030", checked := Try.checked }
namespace Rows
def none {H : Type} : Left H := { results := [], args := [] }

/-- 'laws.FnExactFrameOf': WHATEVER THE INPUT: true; the input reads as it did. -/
def fnExactFrameOfSpec : ChangeSpec := { name := "fnExactFrameOf", fn := fun _ => fun
  | [d] => { results := [.lit (.bool true)], args := [d] }
  | _ => none }
def fnExactFrameOfRow : OpenClaim := { program := "ytdmpbcbbbjceiab", sum := "85da95206939f634092677b89ce260c83073fee960bd6f0bd820e3a64551e030", func := "loop.example/spreadspectrum/laws.FnExactFrameOf", spec := "fnExactFrameOf", recurses := true, apart := false }
def FnExactFrameOfSaid : Prop := fnExactFrameOfRow.holds Try.pinned (OpenSpec.ofChange fnExactFrameOfSpec)

/-- ITS FALSE NEIGHBOUR: 'it returns false'. Refute it at one input. -/
def fnExactFrameOfWrong : ChangeSpec := { name := "fnExactFrameOf", fn := fun _ => fun
  | [d] => { results := [.lit (.bool false)], args := [d] }
  | _ => none }
def FnExactFrameOfWrongFalsely : Prop := fnExactFrameOfRow.holds Try.pinned (OpenSpec.ofChange fnExactFrameOfWrong)

/-- 'laws.FnExactScrambleBits': WHATEVER THE INPUT: true; the input reads as it did. -/
def fnExactScrambleBitsSpec : ChangeSpec := { name := "fnExactScrambleBits", fn := fun _ => fun
  | [d1, d2] => { results := [.lit (.bool true)], args := [d1, d2] }
  | _ => none }
def fnExactScrambleBitsRow : OpenClaim := { program := "ytdmpbcbbbjceiab", sum := "85da95206939f634092677b89ce260c83073fee960bd6f0bd820e3a64551e030", func := "loop.example/spreadspectrum/laws.FnExactScrambleBits", spec := "fnExactScrambleBits", inPlace := ["internal/abi.NoEscape"], unfollowed := true, recurses := true, apart := false }
def FnExactScrambleBitsSaid : Prop := fnExactScrambleBitsRow.holds Try.pinned (OpenSpec.ofChange fnExactScrambleBitsSpec)

/-- ITS FALSE NEIGHBOUR: 'it returns false'. Refute it at one input. -/
def fnExactScrambleBitsWrong : ChangeSpec := { name := "fnExactScrambleBits", fn := fun _ => fun
  | [d1, d2] => { results := [.lit (.bool false)], args := [d1, d2] }
  | _ => none }
def FnExactScrambleBitsWrongFalsely : Prop := fnExactScrambleBitsRow.holds Try.pinned (OpenSpec.ofChange fnExactScrambleBitsWrong)

/-- 'laws.FnExactParseFrame': WHATEVER THE INPUT: true; the input reads as it did. -/
def fnExactParseFrameSpec : ChangeSpec := { name := "fnExactParseFrame", fn := fun _ => fun
  | [d1, d2] => { results := [.lit (.bool true)], args := [d1, d2] }
  | _ => none }
def fnExactParseFrameRow : OpenClaim := { program := "ytdmpbcbbbjceiab", sum := "85da95206939f634092677b89ce260c83073fee960bd6f0bd820e3a64551e030", func := "loop.example/spreadspectrum/laws.FnExactParseFrame", spec := "fnExactParseFrame", recurses := true, apart := false }
def FnExactParseFrameSaid : Prop := fnExactParseFrameRow.holds Try.pinned (OpenSpec.ofChange fnExactParseFrameSpec)

/-- ITS FALSE NEIGHBOUR: 'it returns false'. Refute it at one input. -/
def fnExactParseFrameWrong : ChangeSpec := { name := "fnExactParseFrame", fn := fun _ => fun
  | [d1, d2] => { results := [.lit (.bool false)], args := [d1, d2] }
  | _ => none }
def FnExactParseFrameWrongFalsely : Prop := fnExactParseFrameRow.holds Try.pinned (OpenSpec.ofChange fnExactParseFrameWrong)

/-- 'laws.FnInterleave': WHATEVER THE INPUT: true; the input reads as it did. -/
def fnInterleaveSpec : ChangeSpec := { name := "fnInterleave", fn := fun _ => fun
  | [d] => { results := [.lit (.bool true)], args := [d] }
  | _ => none }
def fnInterleaveRow : OpenClaim := { program := "ytdmpbcbbbjceiab", sum := "85da95206939f634092677b89ce260c83073fee960bd6f0bd820e3a64551e030", func := "loop.example/spreadspectrum/laws.FnInterleave", spec := "fnInterleave", unfollowed := true, recurses := true, apart := false }
def FnInterleaveSaid : Prop := fnInterleaveRow.holds Try.pinned (OpenSpec.ofChange fnInterleaveSpec)

/-- ITS FALSE NEIGHBOUR: 'it returns false'. Refute it at one input. -/
def fnInterleaveWrong : ChangeSpec := { name := "fnInterleave", fn := fun _ => fun
  | [d] => { results := [.lit (.bool false)], args := [d] }
  | _ => none }
def FnInterleaveWrongFalsely : Prop := fnInterleaveRow.holds Try.pinned (OpenSpec.ofChange fnInterleaveWrong)

/-- 'laws.FnDiff': WHATEVER THE INPUT: true; the input reads as it did. -/
def fnDiffSpec : ChangeSpec := { name := "fnDiff", fn := fun _ => fun
  | [d] => { results := [.lit (.bool true)], args := [d] }
  | _ => none }
def fnDiffRow : OpenClaim := { program := "ytdmpbcbbbjceiab", sum := "85da95206939f634092677b89ce260c83073fee960bd6f0bd820e3a64551e030", func := "loop.example/spreadspectrum/laws.FnDiff", spec := "fnDiff", unfollowed := true, recurses := true, apart := false }
def FnDiffSaid : Prop := fnDiffRow.holds Try.pinned (OpenSpec.ofChange fnDiffSpec)

/-- ITS FALSE NEIGHBOUR: 'it returns false'. Refute it at one input. -/
def fnDiffWrong : ChangeSpec := { name := "fnDiff", fn := fun _ => fun
  | [d] => { results := [.lit (.bool false)], args := [d] }
  | _ => none }
def FnDiffWrongFalsely : Prop := fnDiffRow.holds Try.pinned (OpenSpec.ofChange fnDiffWrong)

/-- 'laws.FnSyndrome': WHATEVER THE INPUT: true; the input reads as it did. -/
def fnSyndromeSpec : ChangeSpec := { name := "fnSyndrome", fn := fun _ => fun
  | [d1, d2] => { results := [.lit (.bool true)], args := [d1, d2] }
  | _ => none }
def fnSyndromeRow : OpenClaim := { program := "ytdmpbcbbbjceiab", sum := "85da95206939f634092677b89ce260c83073fee960bd6f0bd820e3a64551e030", func := "loop.example/spreadspectrum/laws.FnSyndrome", spec := "fnSyndrome", recurses := true, apart := false }
def FnSyndromeSaid : Prop := fnSyndromeRow.holds Try.pinned (OpenSpec.ofChange fnSyndromeSpec)

/-- ITS FALSE NEIGHBOUR: 'it returns false'. Refute it at one input. -/
def fnSyndromeWrong : ChangeSpec := { name := "fnSyndrome", fn := fun _ => fun
  | [d1, d2] => { results := [.lit (.bool false)], args := [d1, d2] }
  | _ => none }
def FnSyndromeWrongFalsely : Prop := fnSyndromeRow.holds Try.pinned (OpenSpec.ofChange fnSyndromeWrong)

/-- 'laws.FnCrcSum': WHATEVER THE INPUT: true; the input reads as it did. -/
def fnCrcSumSpec : ChangeSpec := { name := "fnCrcSum", fn := fun _ => fun
  | [d] => { results := [.lit (.bool true)], args := [d] }
  | _ => none }
def fnCrcSumRow : OpenClaim := { program := "ytdmpbcbbbjceiab", sum := "85da95206939f634092677b89ce260c83073fee960bd6f0bd820e3a64551e030", func := "loop.example/spreadspectrum/laws.FnCrcSum", spec := "fnCrcSum", recurses := true, apart := false }
def FnCrcSumSaid : Prop := fnCrcSumRow.holds Try.pinned (OpenSpec.ofChange fnCrcSumSpec)

/-- ITS FALSE NEIGHBOUR: 'it returns false'. Refute it at one input. -/
def fnCrcSumWrong : ChangeSpec := { name := "fnCrcSum", fn := fun _ => fun
  | [d] => { results := [.lit (.bool false)], args := [d] }
  | _ => none }
def FnCrcSumWrongFalsely : Prop := fnCrcSumRow.holds Try.pinned (OpenSpec.ofChange fnCrcSumWrong)

/- THE SECOND FORM. 'bulk': how many values and letters a reading holds, each counted each time it is reached (what is shared counts as often as it is met; a slice's spare places count too). A statement '..UptoSaid' is the law's where the arguments, and the package variables that the reading takes, are together of bulk at most 1048576: NARROWER than '..Said'. Prove '..Said' where nothing that the law and all that it calls make is longer than what came in: it says more and counts as full. Else prove '..UptoSaid'. A law counts once. -/
mutual
def uptoBulk {H : Type} : DataW H → Nat
  | .lit (.string bytes) => bytes.length + 1
  | .lit _ => 1
  | .nil => 1
  | .ptr d => uptoBulk d + 1
  | .slice elems spare => uptoBulkAll elems + uptoBulkAll spare + 1
  | .agg parts => uptoBulkAll parts + 1
  | .iface _ d => uptoBulk d + 1
  | .map entries => uptoBulkEntries entries + 1
  | .held _ => 1
def uptoBulkAll {H : Type} : List (DataW H) → Nat
  | [] => 0
  | d :: r => uptoBulk d + uptoBulkAll r
def uptoBulkEntries {H : Type} : List (Lit × DataW H) → Nat
  | [] => 0
  | x :: r => uptoBulkEntry x + uptoBulkEntries r
def uptoBulkEntry {H : Type} : Lit × DataW H → Nat
  | (.string bytes, d) => bytes.length + uptoBulk d + 1
  | (_, d) => uptoBulk d + 1
 end
def uptoSmall : (H : Type) → List (DataW H) → Bool := fun _ ds => decide (uptoBulkAll ds ≤ 1048576)
def OpenSpec.upto (s : _root_.Go.ChangeSpec) : _root_.Go.OpenSpec := { _root_.Go.OpenSpec.ofChange s with cond := some uptoSmall }

/-- 'laws.FnExactFrameOf', WHERE WHAT IT READS IS OF BULK AT MOST 1048576: true; the input reads as it did. -/
def fnExactFrameOfUptoRow : OpenClaim := { program := "ytdmpbcbbbjceiab", sum := "85da95206939f634092677b89ce260c83073fee960bd6f0bd820e3a64551e030", func := "loop.example/spreadspectrum/laws.FnExactFrameOf", spec := "fnExactFrameOf", recurses := true, apart := false, narrowed := true }
def FnExactFrameOfUptoSaid : Prop := fnExactFrameOfUptoRow.holds Try.pinned (OpenSpec.upto fnExactFrameOfSpec)

/-- 'laws.FnExactScrambleBits', WHERE WHAT IT READS IS OF BULK AT MOST 1048576: true; the input reads as it did. -/
def fnExactScrambleBitsUptoRow : OpenClaim := { program := "ytdmpbcbbbjceiab", sum := "85da95206939f634092677b89ce260c83073fee960bd6f0bd820e3a64551e030", func := "loop.example/spreadspectrum/laws.FnExactScrambleBits", spec := "fnExactScrambleBits", inPlace := ["internal/abi.NoEscape"], unfollowed := true, recurses := true, apart := false, narrowed := true }
def FnExactScrambleBitsUptoSaid : Prop := fnExactScrambleBitsUptoRow.holds Try.pinned (OpenSpec.upto fnExactScrambleBitsSpec)

/-- 'laws.FnExactParseFrame', WHERE WHAT IT READS IS OF BULK AT MOST 1048576: true; the input reads as it did. -/
def fnExactParseFrameUptoRow : OpenClaim := { program := "ytdmpbcbbbjceiab", sum := "85da95206939f634092677b89ce260c83073fee960bd6f0bd820e3a64551e030", func := "loop.example/spreadspectrum/laws.FnExactParseFrame", spec := "fnExactParseFrame", recurses := true, apart := false, narrowed := true }
def FnExactParseFrameUptoSaid : Prop := fnExactParseFrameUptoRow.holds Try.pinned (OpenSpec.upto fnExactParseFrameSpec)

/-- 'laws.FnInterleave', WHERE WHAT IT READS IS OF BULK AT MOST 1048576: true; the input reads as it did. -/
def fnInterleaveUptoRow : OpenClaim := { program := "ytdmpbcbbbjceiab", sum := "85da95206939f634092677b89ce260c83073fee960bd6f0bd820e3a64551e030", func := "loop.example/spreadspectrum/laws.FnInterleave", spec := "fnInterleave", unfollowed := true, recurses := true, apart := false, narrowed := true }
def FnInterleaveUptoSaid : Prop := fnInterleaveUptoRow.holds Try.pinned (OpenSpec.upto fnInterleaveSpec)

/-- 'laws.FnDiff', WHERE WHAT IT READS IS OF BULK AT MOST 1048576: true; the input reads as it did. -/
def fnDiffUptoRow : OpenClaim := { program := "ytdmpbcbbbjceiab", sum := "85da95206939f634092677b89ce260c83073fee960bd6f0bd820e3a64551e030", func := "loop.example/spreadspectrum/laws.FnDiff", spec := "fnDiff", unfollowed := true, recurses := true, apart := false, narrowed := true }
def FnDiffUptoSaid : Prop := fnDiffUptoRow.holds Try.pinned (OpenSpec.upto fnDiffSpec)

/-- 'laws.FnSyndrome', WHERE WHAT IT READS IS OF BULK AT MOST 1048576: true; the input reads as it did. -/
def fnSyndromeUptoRow : OpenClaim := { program := "ytdmpbcbbbjceiab", sum := "85da95206939f634092677b89ce260c83073fee960bd6f0bd820e3a64551e030", func := "loop.example/spreadspectrum/laws.FnSyndrome", spec := "fnSyndrome", recurses := true, apart := false, narrowed := true }
def FnSyndromeUptoSaid : Prop := fnSyndromeUptoRow.holds Try.pinned (OpenSpec.upto fnSyndromeSpec)

/-- 'laws.FnCrcSum', WHERE WHAT IT READS IS OF BULK AT MOST 1048576: true; the input reads as it did. -/
def fnCrcSumUptoRow : OpenClaim := { program := "ytdmpbcbbbjceiab", sum := "85da95206939f634092677b89ce260c83073fee960bd6f0bd820e3a64551e030", func := "loop.example/spreadspectrum/laws.FnCrcSum", spec := "fnCrcSum", recurses := true, apart := false, narrowed := true }
def FnCrcSumUptoSaid : Prop := fnCrcSumUptoRow.holds Try.pinned (OpenSpec.upto fnCrcSumSpec)

end Rows
end Go.Proofs.Ytdmpbcbbbjceiab
