/-
  No cell of these rows narrows 'for every input' (looked for: loops, veiled, ifaces, maps, wideKeys, modest, calm, conditions, laid).
  DERIVED. THE GIVEN ROWS OF THIS SEAT. 6 by the template 'for every input the law returns true; each argument reads behind the call as it read before'; 0 by the template 'total and deterministic' (their statements: YtkpiloefmhhclaaTotals.lean).
  GIVEN WITH THE SEED: the statements are not yours to turn. If you find one false, say at which input.
  Laid BY PROGRAM, IN A SANDBOX (cutbox-rows.mjs): the forced cells as the released guide's own fill.sh prints them over the translation f42fb45f5fb211ed… (all of the seat's roots in one cut). By AI agents, Wed Nov 11 2026. No macro, syntax, notation, axiom, sorry.
-/
import Derived.Test.YtkpiloefmhhclaaChecked
import GoSem.Claim
import GoSem.ClaimJoined
import GoSem.ClaimMapViews
import Derived.JoinedTies
import Derived.KernelRfl
namespace Go.Proofs.Ytkpiloefmhhclaa
/- THE CELL 'sum', in the pinned program and in every row, IS THE sha256 OF THE DUMP (.gsa) THAT YtkpiloefmhhclaaProg.lean LOADS. Nothing in Lean hashes anything: it is a label: what it is worth is what the hold of that sum in a sandbox is worth. -/
noncomputable def Try.pinned : Pinned := { name := "ytkpiloefmhhclaa", sum := "f42fb45f5fb211edc4e457311c3c5ef0b345e1c35334acdf1ccc0c74cc6408c3", checked := Try.checked }
namespace Rows
def none {H : Type} : Left H := { results := [], args := [] }

/-- 'laws.FnScramble': WHATEVER THE INPUT: true; the input reads as it did. -/
def fnScrambleSpec : ChangeSpec := { name := "fnScramble", fn := fun _ => fun
  | [d] => { results := [.lit (.bool true)], args := [d] }
  | _ => none }
def fnScrambleRow : OpenClaim := { program := "ytkpiloefmhhclaa", sum := "f42fb45f5fb211edc4e457311c3c5ef0b345e1c35334acdf1ccc0c74cc6408c3", func := "loop.example/spreadspectrum/laws.FnScramble", spec := "fnScramble", inPlace := ["internal/abi.NoEscape"], unfollowed := true, recurses := true, apart := false }
def FnScrambleSaid : Prop := fnScrambleRow.holds Try.pinned (OpenSpec.ofChange fnScrambleSpec)

/-- ITS FALSE NEIGHBOUR: 'it returns false'. Refute it at one input. -/
def fnScrambleWrong : ChangeSpec := { name := "fnScramble", fn := fun _ => fun
  | [d] => { results := [.lit (.bool false)], args := [d] }
  | _ => none }
def FnScrambleWrongFalsely : Prop := fnScrambleRow.holds Try.pinned (OpenSpec.ofChange fnScrambleWrong)

/-- 'laws.FnMajority': WHATEVER THE INPUT: true; the input reads as it did. -/
def fnMajoritySpec : ChangeSpec := { name := "fnMajority", fn := fun _ => fun
  | [d1, d2] => { results := [.lit (.bool true)], args := [d1, d2] }
  | _ => none }
def fnMajorityRow : OpenClaim := { program := "ytkpiloefmhhclaa", sum := "f42fb45f5fb211edc4e457311c3c5ef0b345e1c35334acdf1ccc0c74cc6408c3", func := "loop.example/spreadspectrum/laws.FnMajority", spec := "fnMajority", inPlace := ["internal/bytealg.CountString", "internal/bytealg.IndexByteString", "internal/bytealg.IndexString"], unfollowed := true, recurses := true, named := ["internal/bytealg.MaxLen"], apart := false }
def FnMajoritySaid : Prop := fnMajorityRow.holds Try.pinned (OpenSpec.ofChange fnMajoritySpec)

/-- ITS FALSE NEIGHBOUR: 'it returns false'. Refute it at one input. -/
def fnMajorityWrong : ChangeSpec := { name := "fnMajority", fn := fun _ => fun
  | [d1, d2] => { results := [.lit (.bool false)], args := [d1, d2] }
  | _ => none }
def FnMajorityWrongFalsely : Prop := fnMajorityRow.holds Try.pinned (OpenSpec.ofChange fnMajorityWrong)

/-- 'laws.FnMajorityBits': WHATEVER THE INPUT: true; the input reads as it did. -/
def fnMajorityBitsSpec : ChangeSpec := { name := "fnMajorityBits", fn := fun _ => fun
  | [d] => { results := [.lit (.bool true)], args := [d] }
  | _ => none }
def fnMajorityBitsRow : OpenClaim := { program := "ytkpiloefmhhclaa", sum := "f42fb45f5fb211edc4e457311c3c5ef0b345e1c35334acdf1ccc0c74cc6408c3", func := "loop.example/spreadspectrum/laws.FnMajorityBits", spec := "fnMajorityBits", inPlace := ["internal/bytealg.CountString", "internal/bytealg.IndexByteString", "internal/bytealg.IndexString"], unfollowed := true, recurses := true, named := ["internal/bytealg.MaxLen"], apart := false }
def FnMajorityBitsSaid : Prop := fnMajorityBitsRow.holds Try.pinned (OpenSpec.ofChange fnMajorityBitsSpec)

/-- ITS FALSE NEIGHBOUR: 'it returns false'. Refute it at one input. -/
def fnMajorityBitsWrong : ChangeSpec := { name := "fnMajorityBits", fn := fun _ => fun
  | [d] => { results := [.lit (.bool false)], args := [d] }
  | _ => none }
def FnMajorityBitsWrongFalsely : Prop := fnMajorityBitsRow.holds Try.pinned (OpenSpec.ofChange fnMajorityBitsWrong)

/-- 'laws.FnCrcDetects': WHATEVER THE INPUT: true; the input reads as it did. -/
def fnCrcDetectsSpec : ChangeSpec := { name := "fnCrcDetects", fn := fun _ => fun
  | [d1, d2] => { results := [.lit (.bool true)], args := [d1, d2] }
  | _ => none }
def fnCrcDetectsRow : OpenClaim := { program := "ytkpiloefmhhclaa", sum := "f42fb45f5fb211edc4e457311c3c5ef0b345e1c35334acdf1ccc0c74cc6408c3", func := "loop.example/spreadspectrum/laws.FnCrcDetects", spec := "fnCrcDetects", recurses := true, apart := false }
def FnCrcDetectsSaid : Prop := fnCrcDetectsRow.holds Try.pinned (OpenSpec.ofChange fnCrcDetectsSpec)

/-- ITS FALSE NEIGHBOUR: 'it returns false'. Refute it at one input. -/
def fnCrcDetectsWrong : ChangeSpec := { name := "fnCrcDetects", fn := fun _ => fun
  | [d1, d2] => { results := [.lit (.bool false)], args := [d1, d2] }
  | _ => none }
def FnCrcDetectsWrongFalsely : Prop := fnCrcDetectsRow.holds Try.pinned (OpenSpec.ofChange fnCrcDetectsWrong)

/-- 'laws.FnFrame': WHATEVER THE INPUT: true; the input reads as it did. -/
def fnFrameSpec : ChangeSpec := { name := "fnFrame", fn := fun _ => fun
  | [d1, d2] => { results := [.lit (.bool true)], args := [d1, d2] }
  | _ => none }
def fnFrameRow : OpenClaim := { program := "ytkpiloefmhhclaa", sum := "f42fb45f5fb211edc4e457311c3c5ef0b345e1c35334acdf1ccc0c74cc6408c3", func := "loop.example/spreadspectrum/laws.FnFrame", spec := "fnFrame", recurses := true, apart := false }
def FnFrameSaid : Prop := fnFrameRow.holds Try.pinned (OpenSpec.ofChange fnFrameSpec)

/-- ITS FALSE NEIGHBOUR: 'it returns false'. Refute it at one input. -/
def fnFrameWrong : ChangeSpec := { name := "fnFrame", fn := fun _ => fun
  | [d1, d2] => { results := [.lit (.bool false)], args := [d1, d2] }
  | _ => none }
def FnFrameWrongFalsely : Prop := fnFrameRow.holds Try.pinned (OpenSpec.ofChange fnFrameWrong)

/-- 'laws.FnFrameChange': WHATEVER THE INPUT: true; the input reads as it did. -/
def fnFrameChangeSpec : ChangeSpec := { name := "fnFrameChange", fn := fun _ => fun
  | [d] => { results := [.lit (.bool true)], args := [d] }
  | _ => none }
def fnFrameChangeRow : OpenClaim := { program := "ytkpiloefmhhclaa", sum := "f42fb45f5fb211edc4e457311c3c5ef0b345e1c35334acdf1ccc0c74cc6408c3", func := "loop.example/spreadspectrum/laws.FnFrameChange", spec := "fnFrameChange", recurses := true, apart := false }
def FnFrameChangeSaid : Prop := fnFrameChangeRow.holds Try.pinned (OpenSpec.ofChange fnFrameChangeSpec)

/-- ITS FALSE NEIGHBOUR: 'it returns false'. Refute it at one input. -/
def fnFrameChangeWrong : ChangeSpec := { name := "fnFrameChange", fn := fun _ => fun
  | [d] => { results := [.lit (.bool false)], args := [d] }
  | _ => none }
def FnFrameChangeWrongFalsely : Prop := fnFrameChangeRow.holds Try.pinned (OpenSpec.ofChange fnFrameChangeWrong)

/- THE SECOND FORM. 'bulk': how many values and letters a reading holds, each counted each time it is reached (what is shared counts as often as it is met; a slice's spare places count too). A statement '..UptoSaid' is the law's where the arguments, and the package variables that the reading takes, are together of bulk at most 1048576: NARROWER than '..Said'. Prove '..Said' where nothing that the law and all that it calls make is longer than what came in: it says more and counts as full. Else prove '..UptoSaid'. A law counts once. -/
mutual
def uptoBulk {H : Type} : DataW H → Nat
  | .lit (.string bytes) => bytes.length + 1
  | .lit _ => 1
  | .nil => 1
  | .ptr d => uptoBulk d + 1
  | .slice elems spare => uptoBulkAll elems + uptoBulkAll spare + 1
  | .agg parts => uptoBulkAll parts + 1
  | .iface _ d => uptoBulk d + 1
  | .map entries => uptoBulkEntries entries + 1
  | .held _ => 1
def uptoBulkAll {H : Type} : List (DataW H) → Nat
  | [] => 0
  | d :: r => uptoBulk d + uptoBulkAll r
def uptoBulkEntries {H : Type} : List (Lit × DataW H) → Nat
  | [] => 0
  | x :: r => uptoBulkEntry x + uptoBulkEntries r
def uptoBulkEntry {H : Type} : Lit × DataW H → Nat
  | (.string bytes, d) => bytes.length + uptoBulk d + 1
  | (_, d) => uptoBulk d + 1
 end
def uptoSmall : (H : Type) → List (DataW H) → Bool := fun _ ds => decide (uptoBulkAll ds ≤ 1048576)
def OpenSpec.upto (s : _root_.Go.ChangeSpec) : _root_.Go.OpenSpec := { _root_.Go.OpenSpec.ofChange s with cond := some uptoSmall }

/-- 'laws.FnScramble', WHERE WHAT IT READS IS OF BULK AT MOST 1048576: true; the input reads as it did. -/
def fnScrambleUptoRow : OpenClaim := { program := "ytkpiloefmhhclaa", sum := "f42fb45f5fb211edc4e457311c3c5ef0b345e1c35334acdf1ccc0c74cc6408c3", func := "loop.example/spreadspectrum/laws.FnScramble", spec := "fnScramble", inPlace := ["internal/abi.NoEscape"], unfollowed := true, recurses := true, apart := false, narrowed := true }
def FnScrambleUptoSaid : Prop := fnScrambleUptoRow.holds Try.pinned (OpenSpec.upto fnScrambleSpec)

/-- 'laws.FnMajority', WHERE WHAT IT READS IS OF BULK AT MOST 1048576: true; the input reads as it did. -/
def fnMajorityUptoRow : OpenClaim := { program := "ytkpiloefmhhclaa", sum := "f42fb45f5fb211edc4e457311c3c5ef0b345e1c35334acdf1ccc0c74cc6408c3", func := "loop.example/spreadspectrum/laws.FnMajority", spec := "fnMajority", inPlace := ["internal/bytealg.CountString", "internal/bytealg.IndexByteString", "internal/bytealg.IndexString"], unfollowed := true, recurses := true, named := ["internal/bytealg.MaxLen"], apart := false, narrowed := true }
def FnMajorityUptoSaid : Prop := fnMajorityUptoRow.holds Try.pinned (OpenSpec.upto fnMajoritySpec)

/-- 'laws.FnMajorityBits', WHERE WHAT IT READS IS OF BULK AT MOST 1048576: true; the input reads as it did. -/
def fnMajorityBitsUptoRow : OpenClaim := { program := "ytkpiloefmhhclaa", sum := "f42fb45f5fb211edc4e457311c3c5ef0b345e1c35334acdf1ccc0c74cc6408c3", func := "loop.example/spreadspectrum/laws.FnMajorityBits", spec := "fnMajorityBits", inPlace := ["internal/bytealg.CountString", "internal/bytealg.IndexByteString", "internal/bytealg.IndexString"], unfollowed := true, recurses := true, named := ["internal/bytealg.MaxLen"], apart := false, narrowed := true }
def FnMajorityBitsUptoSaid : Prop := fnMajorityBitsUptoRow.holds Try.pinned (OpenSpec.upto fnMajorityBitsSpec)

/-- 'laws.FnCrcDetects', WHERE WHAT IT READS IS OF BULK AT MOST 1048576: true; the input reads as it did. -/
def fnCrcDetectsUptoRow : OpenClaim := { program := "ytkpiloefmhhclaa", sum := "f42fb45f5fb211edc4e457311c3c5ef0b345e1c35334acdf1ccc0c74cc6408c3", func := "loop.example/spreadspectrum/laws.FnCrcDetects", spec := "fnCrcDetects", recurses := true, apart := false, narrowed := true }
def FnCrcDetectsUptoSaid : Prop := fnCrcDetectsUptoRow.holds Try.pinned (OpenSpec.upto fnCrcDetectsSpec)

/-- 'laws.FnFrame', WHERE WHAT IT READS IS OF BULK AT MOST 1048576: true; the input reads as it did. -/
def fnFrameUptoRow : OpenClaim := { program := "ytkpiloefmhhclaa", sum := "f42fb45f5fb211edc4e457311c3c5ef0b345e1c35334acdf1ccc0c74cc6408c3", func := "loop.example/spreadspectrum/laws.FnFrame", spec := "fnFrame", recurses := true, apart := false, narrowed := true }
def FnFrameUptoSaid : Prop := fnFrameUptoRow.holds Try.pinned (OpenSpec.upto fnFrameSpec)

/-- 'laws.FnFrameChange', WHERE WHAT IT READS IS OF BULK AT MOST 1048576: true; the input reads as it did. -/
def fnFrameChangeUptoRow : OpenClaim := { program := "ytkpiloefmhhclaa", sum := "f42fb45f5fb211edc4e457311c3c5ef0b345e1c35334acdf1ccc0c74cc6408c3", func := "loop.example/spreadspectrum/laws.FnFrameChange", spec := "fnFrameChange", recurses := true, apart := false, narrowed := true }
def FnFrameChangeUptoSaid : Prop := fnFrameChangeUptoRow.holds Try.pinned (OpenSpec.upto fnFrameChangeSpec)

end Rows
end Go.Proofs.Ytkpiloefmhhclaa
