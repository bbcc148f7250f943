/-
  No cell of these rows narrows 'for every input' (looked for: loops, veiled, ifaces, maps, wideKeys, modest, calm, conditions, laid).
  DERIVED. THE GIVEN ROWS OF THIS SEAT. 10 by the template 'for every input the law returns true; each argument reads behind the call as it read before'; 0 by the template 'total and deterministic' (their statements: YtpcogmpnmkmoeabTotals.lean).
  GIVEN WITH THE SEED: the statements are not yours to turn. If you find one false, say at which input.
  Laid BY PROGRAM, IN A SANDBOX (cutbox-rows.mjs): the forced cells as the released guide's own fill.sh prints them over the translation a4b1c1e47d3e93b5… (all of the seat's roots in one cut). By AI agents, Wed Nov 11 2026. No macro, syntax, notation, axiom, sorry.
-/
import Derived.Test.YtpcogmpnmkmoeabChecked
import GoSem.Claim
import GoSem.ClaimJoined
import GoSem.ClaimMapViews
import Derived.JoinedTies
import Derived.KernelRfl
namespace Go.Proofs.Ytpcogmpnmkmoeab
/- THE CELL 'sum', in the pinned program and in every row, IS THE sha256 OF THE DUMP (.gsa) THAT YtpcogmpnmkmoeabProg.lean LOADS. Nothing in Lean hashes anything: it is a label: what it is worth is what the hold of that sum in a sandbox is worth. -/
noncomputable def Try.pinned : Pinned := { name := "ytpcogmpnmkmoeab", sum := "a4b1c1e47d3e93b575a65e4a58553a5a3233afb9cd9c9677036f944c567fb1fd", checked := Try.checked }
namespace Rows
def none {H : Type} : Left H := { results := [], args := [] }

/-- 'laws.FnExactBestOffset': WHATEVER THE INPUT: true; the input reads as it did. -/
def fnExactBestOffsetSpec : ChangeSpec := { name := "fnExactBestOffset", fn := fun _ => fun
  | [d1, d2] => { results := [.lit (.bool true)], args := [d1, d2] }
  | _ => none }
def fnExactBestOffsetRow : OpenClaim := { program := "ytpcogmpnmkmoeab", sum := "a4b1c1e47d3e93b575a65e4a58553a5a3233afb9cd9c9677036f944c567fb1fd", func := "loop.example/spreadspectrum/laws.FnExactBestOffset", spec := "fnExactBestOffset", apart := false }
def FnExactBestOffsetSaid : Prop := fnExactBestOffsetRow.holds Try.pinned (OpenSpec.ofChange fnExactBestOffsetSpec)

/-- ITS FALSE NEIGHBOUR: 'it returns false'. Refute it at one input. -/
def fnExactBestOffsetWrong : ChangeSpec := { name := "fnExactBestOffset", fn := fun _ => fun
  | [d1, d2] => { results := [.lit (.bool false)], args := [d1, d2] }
  | _ => none }
def FnExactBestOffsetWrongFalsely : Prop := fnExactBestOffsetRow.holds Try.pinned (OpenSpec.ofChange fnExactBestOffsetWrong)

/-- 'laws.FnExactFirstOffset': WHATEVER THE INPUT: true; the input reads as it did. -/
def fnExactFirstOffsetSpec : ChangeSpec := { name := "fnExactFirstOffset", fn := fun _ => fun
  | [d1, d2, d3, d4] => { results := [.lit (.bool true)], args := [d1, d2, d3, d4] }
  | _ => none }
def fnExactFirstOffsetRow : OpenClaim := { program := "ytpcogmpnmkmoeab", sum := "a4b1c1e47d3e93b575a65e4a58553a5a3233afb9cd9c9677036f944c567fb1fd", func := "loop.example/spreadspectrum/laws.FnExactFirstOffset", spec := "fnExactFirstOffset", apart := false }
def FnExactFirstOffsetSaid : Prop := fnExactFirstOffsetRow.holds Try.pinned (OpenSpec.ofChange fnExactFirstOffsetSpec)

/-- ITS FALSE NEIGHBOUR: 'it returns false'. Refute it at one input. -/
def fnExactFirstOffsetWrong : ChangeSpec := { name := "fnExactFirstOffset", fn := fun _ => fun
  | [d1, d2, d3, d4] => { results := [.lit (.bool false)], args := [d1, d2, d3, d4] }
  | _ => none }
def FnExactFirstOffsetWrongFalsely : Prop := fnExactFirstOffsetRow.holds Try.pinned (OpenSpec.ofChange fnExactFirstOffsetWrong)

/-- 'laws.FnExactSearchTime': WHATEVER THE INPUT: true; the input reads as it did. -/
def fnExactSearchTimeSpec : ChangeSpec := { name := "fnExactSearchTime", fn := fun _ => fun
  | [d1, d2, d3, d4] => { results := [.lit (.bool true)], args := [d1, d2, d3, d4] }
  | _ => none }
def fnExactSearchTimeRow : OpenClaim := { program := "ytpcogmpnmkmoeab", sum := "a4b1c1e47d3e93b575a65e4a58553a5a3233afb9cd9c9677036f944c567fb1fd", func := "loop.example/spreadspectrum/laws.FnExactSearchTime", spec := "fnExactSearchTime", apart := false }
def FnExactSearchTimeSaid : Prop := fnExactSearchTimeRow.holds Try.pinned (OpenSpec.ofChange fnExactSearchTimeSpec)

/-- ITS FALSE NEIGHBOUR: 'it returns false'. Refute it at one input. -/
def fnExactSearchTimeWrong : ChangeSpec := { name := "fnExactSearchTime", fn := fun _ => fun
  | [d1, d2, d3, d4] => { results := [.lit (.bool false)], args := [d1, d2, d3, d4] }
  | _ => none }
def FnExactSearchTimeWrongFalsely : Prop := fnExactSearchTimeRow.holds Try.pinned (OpenSpec.ofChange fnExactSearchTimeWrong)

/-- 'laws.FnExactTrackPath': WHATEVER THE INPUT: true; the input reads as it did. -/
def fnExactTrackPathSpec : ChangeSpec := { name := "fnExactTrackPath", fn := fun _ => fun
  | [d1, d2, d3, d4] => { results := [.lit (.bool true)], args := [d1, d2, d3, d4] }
  | _ => none }
def fnExactTrackPathRow : OpenClaim := { program := "ytpcogmpnmkmoeab", sum := "a4b1c1e47d3e93b575a65e4a58553a5a3233afb9cd9c9677036f944c567fb1fd", func := "loop.example/spreadspectrum/laws.FnExactTrackPath", spec := "fnExactTrackPath", unfollowed := true, recurses := true, apart := false }
def FnExactTrackPathSaid : Prop := fnExactTrackPathRow.holds Try.pinned (OpenSpec.ofChange fnExactTrackPathSpec)

/-- ITS FALSE NEIGHBOUR: 'it returns false'. Refute it at one input. -/
def fnExactTrackPathWrong : ChangeSpec := { name := "fnExactTrackPath", fn := fun _ => fun
  | [d1, d2, d3, d4] => { results := [.lit (.bool false)], args := [d1, d2, d3, d4] }
  | _ => none }
def FnExactTrackPathWrongFalsely : Prop := fnExactTrackPathRow.holds Try.pinned (OpenSpec.ofChange fnExactTrackPathWrong)

/-- 'laws.FnExactDropSample': WHATEVER THE INPUT: true; the input reads as it did. -/
def fnExactDropSampleSpec : ChangeSpec := { name := "fnExactDropSample", fn := fun _ => fun
  | [d1, d2] => { results := [.lit (.bool true)], args := [d1, d2] }
  | _ => none }
def fnExactDropSampleRow : OpenClaim := { program := "ytpcogmpnmkmoeab", sum := "a4b1c1e47d3e93b575a65e4a58553a5a3233afb9cd9c9677036f944c567fb1fd", func := "loop.example/spreadspectrum/laws.FnExactDropSample", spec := "fnExactDropSample", apart := false }
def FnExactDropSampleSaid : Prop := fnExactDropSampleRow.holds Try.pinned (OpenSpec.ofChange fnExactDropSampleSpec)

/-- ITS FALSE NEIGHBOUR: 'it returns false'. Refute it at one input. -/
def fnExactDropSampleWrong : ChangeSpec := { name := "fnExactDropSample", fn := fun _ => fun
  | [d1, d2] => { results := [.lit (.bool false)], args := [d1, d2] }
  | _ => none }
def FnExactDropSampleWrongFalsely : Prop := fnExactDropSampleRow.holds Try.pinned (OpenSpec.ofChange fnExactDropSampleWrong)

/-- 'laws.FnExactRepeatSample': WHATEVER THE INPUT: true; the input reads as it did. -/
def fnExactRepeatSampleSpec : ChangeSpec := { name := "fnExactRepeatSample", fn := fun _ => fun
  | [d1, d2] => { results := [.lit (.bool true)], args := [d1, d2] }
  | _ => none }
def fnExactRepeatSampleRow : OpenClaim := { program := "ytpcogmpnmkmoeab", sum := "a4b1c1e47d3e93b575a65e4a58553a5a3233afb9cd9c9677036f944c567fb1fd", func := "loop.example/spreadspectrum/laws.FnExactRepeatSample", spec := "fnExactRepeatSample", apart := false }
def FnExactRepeatSampleSaid : Prop := fnExactRepeatSampleRow.holds Try.pinned (OpenSpec.ofChange fnExactRepeatSampleSpec)

/-- ITS FALSE NEIGHBOUR: 'it returns false'. Refute it at one input. -/
def fnExactRepeatSampleWrong : ChangeSpec := { name := "fnExactRepeatSample", fn := fun _ => fun
  | [d1, d2] => { results := [.lit (.bool false)], args := [d1, d2] }
  | _ => none }
def FnExactRepeatSampleWrongFalsely : Prop := fnExactRepeatSampleRow.holds Try.pinned (OpenSpec.ofChange fnExactRepeatSampleWrong)

/-- 'laws.FnDistance': WHATEVER THE INPUT: true; the input reads as it did. -/
def fnDistanceSpec : ChangeSpec := { name := "fnDistance", fn := fun _ => fun
  | [d1, d2] => { results := [.lit (.bool true)], args := [d1, d2] }
  | _ => none }
def fnDistanceRow : OpenClaim := { program := "ytpcogmpnmkmoeab", sum := "a4b1c1e47d3e93b575a65e4a58553a5a3233afb9cd9c9677036f944c567fb1fd", func := "loop.example/spreadspectrum/laws.FnDistance", spec := "fnDistance", apart := false }
def FnDistanceSaid : Prop := fnDistanceRow.holds Try.pinned (OpenSpec.ofChange fnDistanceSpec)

/-- ITS FALSE NEIGHBOUR: 'it returns false'. Refute it at one input. -/
def fnDistanceWrong : ChangeSpec := { name := "fnDistance", fn := fun _ => fun
  | [d1, d2] => { results := [.lit (.bool false)], args := [d1, d2] }
  | _ => none }
def FnDistanceWrongFalsely : Prop := fnDistanceRow.holds Try.pinned (OpenSpec.ofChange fnDistanceWrong)

/-- 'laws.FnVerify': WHATEVER THE INPUT: true; the input reads as it did. -/
def fnVerifySpec : ChangeSpec := { name := "fnVerify", fn := fun _ => fun
  | [d] => { results := [.lit (.bool true)], args := [d] }
  | _ => none }
def fnVerifyRow : OpenClaim := { program := "ytpcogmpnmkmoeab", sum := "a4b1c1e47d3e93b575a65e4a58553a5a3233afb9cd9c9677036f944c567fb1fd", func := "loop.example/spreadspectrum/laws.FnVerify", spec := "fnVerify", apart := false }
def FnVerifySaid : Prop := fnVerifyRow.holds Try.pinned (OpenSpec.ofChange fnVerifySpec)

/-- ITS FALSE NEIGHBOUR: 'it returns false'. Refute it at one input. -/
def fnVerifyWrong : ChangeSpec := { name := "fnVerify", fn := fun _ => fun
  | [d] => { results := [.lit (.bool false)], args := [d] }
  | _ => none }
def FnVerifyWrongFalsely : Prop := fnVerifyRow.holds Try.pinned (OpenSpec.ofChange fnVerifyWrong)

/-- 'laws.FnLocked': WHATEVER THE INPUT: true; the input reads as it did. -/
def fnLockedSpec : ChangeSpec := { name := "fnLocked", fn := fun _ => fun
  | [d] => { results := [.lit (.bool true)], args := [d] }
  | _ => none }
def fnLockedRow : OpenClaim := { program := "ytpcogmpnmkmoeab", sum := "a4b1c1e47d3e93b575a65e4a58553a5a3233afb9cd9c9677036f944c567fb1fd", func := "loop.example/spreadspectrum/laws.FnLocked", spec := "fnLocked", unfollowed := true, recurses := true, apart := false }
def FnLockedSaid : Prop := fnLockedRow.holds Try.pinned (OpenSpec.ofChange fnLockedSpec)

/-- ITS FALSE NEIGHBOUR: 'it returns false'. Refute it at one input. -/
def fnLockedWrong : ChangeSpec := { name := "fnLocked", fn := fun _ => fun
  | [d] => { results := [.lit (.bool false)], args := [d] }
  | _ => none }
def FnLockedWrongFalsely : Prop := fnLockedRow.holds Try.pinned (OpenSpec.ofChange fnLockedWrong)

/-- 'laws.FnEarlyLate': WHATEVER THE INPUT: true; the input reads as it did. -/
def fnEarlyLateSpec : ChangeSpec := { name := "fnEarlyLate", fn := fun _ => fun
  | [d] => { results := [.lit (.bool true)], args := [d] }
  | _ => none }
def fnEarlyLateRow : OpenClaim := { program := "ytpcogmpnmkmoeab", sum := "a4b1c1e47d3e93b575a65e4a58553a5a3233afb9cd9c9677036f944c567fb1fd", func := "loop.example/spreadspectrum/laws.FnEarlyLate", spec := "fnEarlyLate", unfollowed := true, recurses := true, apart := false }
def FnEarlyLateSaid : Prop := fnEarlyLateRow.holds Try.pinned (OpenSpec.ofChange fnEarlyLateSpec)

/-- ITS FALSE NEIGHBOUR: 'it returns false'. Refute it at one input. -/
def fnEarlyLateWrong : ChangeSpec := { name := "fnEarlyLate", fn := fun _ => fun
  | [d] => { results := [.lit (.bool false)], args := [d] }
  | _ => none }
def FnEarlyLateWrongFalsely : Prop := fnEarlyLateRow.holds Try.pinned (OpenSpec.ofChange fnEarlyLateWrong)

/- THE SECOND FORM. 'bulk': how many values and letters a reading holds, each counted each time it is reached (what is shared counts as often as it is met; a slice's spare places count too). A statement '..UptoSaid' is the law's where the arguments, and the package variables that the reading takes, are together of bulk at most 1048576: NARROWER than '..Said'. Prove '..Said' where nothing that the law and all that it calls make is longer than what came in: it says more and counts as full. Else prove '..UptoSaid'. A law counts once. -/
mutual
def uptoBulk {H : Type} : DataW H → Nat
  | .lit (.string bytes) => bytes.length + 1
  | .lit _ => 1
  | .nil => 1
  | .ptr d => uptoBulk d + 1
  | .slice elems spare => uptoBulkAll elems + uptoBulkAll spare + 1
  | .agg parts => uptoBulkAll parts + 1
  | .iface _ d => uptoBulk d + 1
  | .map entries => uptoBulkEntries entries + 1
  | .held _ => 1
def uptoBulkAll {H : Type} : List (DataW H) → Nat
  | [] => 0
  | d :: r => uptoBulk d + uptoBulkAll r
def uptoBulkEntries {H : Type} : List (Lit × DataW H) → Nat
  | [] => 0
  | x :: r => uptoBulkEntry x + uptoBulkEntries r
def uptoBulkEntry {H : Type} : Lit × DataW H → Nat
  | (.string bytes, d) => bytes.length + uptoBulk d + 1
  | (_, d) => uptoBulk d + 1
 end
def uptoSmall : (H : Type) → List (DataW H) → Bool := fun _ ds => decide (uptoBulkAll ds ≤ 1048576)
def OpenSpec.upto (s : _root_.Go.ChangeSpec) : _root_.Go.OpenSpec := { _root_.Go.OpenSpec.ofChange s with cond := some uptoSmall }

/-- 'laws.FnExactBestOffset', WHERE WHAT IT READS IS OF BULK AT MOST 1048576: true; the input reads as it did. -/
def fnExactBestOffsetUptoRow : OpenClaim := { program := "ytpcogmpnmkmoeab", sum := "a4b1c1e47d3e93b575a65e4a58553a5a3233afb9cd9c9677036f944c567fb1fd", func := "loop.example/spreadspectrum/laws.FnExactBestOffset", spec := "fnExactBestOffset", apart := false, narrowed := true }
def FnExactBestOffsetUptoSaid : Prop := fnExactBestOffsetUptoRow.holds Try.pinned (OpenSpec.upto fnExactBestOffsetSpec)

/-- 'laws.FnExactFirstOffset', WHERE WHAT IT READS IS OF BULK AT MOST 1048576: true; the input reads as it did. -/
def fnExactFirstOffsetUptoRow : OpenClaim := { program := "ytpcogmpnmkmoeab", sum := "a4b1c1e47d3e93b575a65e4a58553a5a3233afb9cd9c9677036f944c567fb1fd", func := "loop.example/spreadspectrum/laws.FnExactFirstOffset", spec := "fnExactFirstOffset", apart := false, narrowed := true }
def FnExactFirstOffsetUptoSaid : Prop := fnExactFirstOffsetUptoRow.holds Try.pinned (OpenSpec.upto fnExactFirstOffsetSpec)

/-- 'laws.FnExactSearchTime', WHERE WHAT IT READS IS OF BULK AT MOST 1048576: true; the input reads as it did. -/
def fnExactSearchTimeUptoRow : OpenClaim := { program := "ytpcogmpnmkmoeab", sum := "a4b1c1e47d3e93b575a65e4a58553a5a3233afb9cd9c9677036f944c567fb1fd", func := "loop.example/spreadspectrum/laws.FnExactSearchTime", spec := "fnExactSearchTime", apart := false, narrowed := true }
def FnExactSearchTimeUptoSaid : Prop := fnExactSearchTimeUptoRow.holds Try.pinned (OpenSpec.upto fnExactSearchTimeSpec)

/-- 'laws.FnExactTrackPath', WHERE WHAT IT READS IS OF BULK AT MOST 1048576: true; the input reads as it did. -/
def fnExactTrackPathUptoRow : OpenClaim := { program := "ytpcogmpnmkmoeab", sum := "a4b1c1e47d3e93b575a65e4a58553a5a3233afb9cd9c9677036f944c567fb1fd", func := "loop.example/spreadspectrum/laws.FnExactTrackPath", spec := "fnExactTrackPath", unfollowed := true, recurses := true, apart := false, narrowed := true }
def FnExactTrackPathUptoSaid : Prop := fnExactTrackPathUptoRow.holds Try.pinned (OpenSpec.upto fnExactTrackPathSpec)

/-- 'laws.FnExactDropSample', WHERE WHAT IT READS IS OF BULK AT MOST 1048576: true; the input reads as it did. -/
def fnExactDropSampleUptoRow : OpenClaim := { program := "ytpcogmpnmkmoeab", sum := "a4b1c1e47d3e93b575a65e4a58553a5a3233afb9cd9c9677036f944c567fb1fd", func := "loop.example/spreadspectrum/laws.FnExactDropSample", spec := "fnExactDropSample", apart := false, narrowed := true }
def FnExactDropSampleUptoSaid : Prop := fnExactDropSampleUptoRow.holds Try.pinned (OpenSpec.upto fnExactDropSampleSpec)

/-- 'laws.FnExactRepeatSample', WHERE WHAT IT READS IS OF BULK AT MOST 1048576: true; the input reads as it did. -/
def fnExactRepeatSampleUptoRow : OpenClaim := { program := "ytpcogmpnmkmoeab", sum := "a4b1c1e47d3e93b575a65e4a58553a5a3233afb9cd9c9677036f944c567fb1fd", func := "loop.example/spreadspectrum/laws.FnExactRepeatSample", spec := "fnExactRepeatSample", apart := false, narrowed := true }
def FnExactRepeatSampleUptoSaid : Prop := fnExactRepeatSampleUptoRow.holds Try.pinned (OpenSpec.upto fnExactRepeatSampleSpec)

/-- 'laws.FnDistance', WHERE WHAT IT READS IS OF BULK AT MOST 1048576: true; the input reads as it did. -/
def fnDistanceUptoRow : OpenClaim := { program := "ytpcogmpnmkmoeab", sum := "a4b1c1e47d3e93b575a65e4a58553a5a3233afb9cd9c9677036f944c567fb1fd", func := "loop.example/spreadspectrum/laws.FnDistance", spec := "fnDistance", apart := false, narrowed := true }
def FnDistanceUptoSaid : Prop := fnDistanceUptoRow.holds Try.pinned (OpenSpec.upto fnDistanceSpec)

/-- 'laws.FnVerify', WHERE WHAT IT READS IS OF BULK AT MOST 1048576: true; the input reads as it did. -/
def fnVerifyUptoRow : OpenClaim := { program := "ytpcogmpnmkmoeab", sum := "a4b1c1e47d3e93b575a65e4a58553a5a3233afb9cd9c9677036f944c567fb1fd", func := "loop.example/spreadspectrum/laws.FnVerify", spec := "fnVerify", apart := false, narrowed := true }
def FnVerifyUptoSaid : Prop := fnVerifyUptoRow.holds Try.pinned (OpenSpec.upto fnVerifySpec)

/-- 'laws.FnLocked', WHERE WHAT IT READS IS OF BULK AT MOST 1048576: true; the input reads as it did. -/
def fnLockedUptoRow : OpenClaim := { program := "ytpcogmpnmkmoeab", sum := "a4b1c1e47d3e93b575a65e4a58553a5a3233afb9cd9c9677036f944c567fb1fd", func := "loop.example/spreadspectrum/laws.FnLocked", spec := "fnLocked", unfollowed := true, recurses := true, apart := false, narrowed := true }
def FnLockedUptoSaid : Prop := fnLockedUptoRow.holds Try.pinned (OpenSpec.upto fnLockedSpec)

/-- 'laws.FnEarlyLate', WHERE WHAT IT READS IS OF BULK AT MOST 1048576: true; the input reads as it did. -/
def fnEarlyLateUptoRow : OpenClaim := { program := "ytpcogmpnmkmoeab", sum := "a4b1c1e47d3e93b575a65e4a58553a5a3233afb9cd9c9677036f944c567fb1fd", func := "loop.example/spreadspectrum/laws.FnEarlyLate", spec := "fnEarlyLate", unfollowed := true, recurses := true, apart := false, narrowed := true }
def FnEarlyLateUptoSaid : Prop := fnEarlyLateUptoRow.holds Try.pinned (OpenSpec.upto fnEarlyLateSpec)

end Rows
end Go.Proofs.Ytpcogmpnmkmoeab
