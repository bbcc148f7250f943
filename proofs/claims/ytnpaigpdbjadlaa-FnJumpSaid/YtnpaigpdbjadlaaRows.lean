/-
  No cell of these rows narrows 'for every input' (looked for: loops, veiled, ifaces, maps, wideKeys, modest, calm, conditions, laid).
  DERIVED. THE GIVEN ROWS OF THIS SEAT. 12 by the template 'for every input the law returns true; each argument reads behind the call as it read before'; 0 by the template 'total and deterministic' (their statements: YtnpaigpdbjadlaaTotals.lean).
  GIVEN WITH THE SEED: the statements are not yours to turn. If you find one false, say at which input.
  Laid BY PROGRAM, IN A SANDBOX (cutbox-rows.mjs): the forced cells as the released guide's own fill.sh prints them over the translation 5adb5b1bd7a0455e… (all of the seat's roots in one cut). By AI agents, Wed Nov 11 2026. No macro, syntax, notation, axiom, sorry.
-/
import Derived.Test.YtnpaigpdbjadlaaChecked
import GoSem.Claim
import GoSem.ClaimJoined
import GoSem.ClaimMapViews
import Derived.JoinedTies
import Derived.KernelRfl
namespace Go.Proofs.Ytnpaigpdbjadlaa
/- THE CELL 'sum', in the pinned program and in every row, IS THE sha256 OF THE DUMP (.gsa) THAT YtnpaigpdbjadlaaProg.lean LOADS. Nothing in Lean hashes anything: it is a label: what it is worth is what the hold of that sum in a sandbox is worth. -/
noncomputable def Try.pinned : Pinned := { name := "ytnpaigpdbjadlaa", sum := "5adb5b1bd7a0455ed21ae849556d5173c5b2f13974938d97f23c19655aee8002", checked := Try.checked }
namespace Rows
def none {H : Type} : Left H := { results := [], args := [] }

/-- 'laws.FnExactStepRegister': WHATEVER THE INPUT: true; the input reads as it did. -/
def fnExactStepRegisterSpec : ChangeSpec := { name := "fnExactStepRegister", fn := fun _ => fun
  | [d] => { results := [.lit (.bool true)], args := [d] }
  | _ => none }
def fnExactStepRegisterRow : OpenClaim := { program := "ytnpaigpdbjadlaa", sum := "5adb5b1bd7a0455ed21ae849556d5173c5b2f13974938d97f23c19655aee8002", func := "loop.example/spreadspectrum/laws.FnExactStepRegister", spec := "fnExactStepRegister", apart := false }
def FnExactStepRegisterSaid : Prop := fnExactStepRegisterRow.holds Try.pinned (OpenSpec.ofChange fnExactStepRegisterSpec)

/-- ITS FALSE NEIGHBOUR: 'it returns false'. Refute it at one input. -/
def fnExactStepRegisterWrong : ChangeSpec := { name := "fnExactStepRegister", fn := fun _ => fun
  | [d] => { results := [.lit (.bool false)], args := [d] }
  | _ => none }
def FnExactStepRegisterWrongFalsely : Prop := fnExactStepRegisterRow.holds Try.pinned (OpenSpec.ofChange fnExactStepRegisterWrong)

/-- 'laws.FnExactBackRegister': WHATEVER THE INPUT: true; the input reads as it did. -/
def fnExactBackRegisterSpec : ChangeSpec := { name := "fnExactBackRegister", fn := fun _ => fun
  | [d] => { results := [.lit (.bool true)], args := [d] }
  | _ => none }
def fnExactBackRegisterRow : OpenClaim := { program := "ytnpaigpdbjadlaa", sum := "5adb5b1bd7a0455ed21ae849556d5173c5b2f13974938d97f23c19655aee8002", func := "loop.example/spreadspectrum/laws.FnExactBackRegister", spec := "fnExactBackRegister", apart := false }
def FnExactBackRegisterSaid : Prop := fnExactBackRegisterRow.holds Try.pinned (OpenSpec.ofChange fnExactBackRegisterSpec)

/-- ITS FALSE NEIGHBOUR: 'it returns false'. Refute it at one input. -/
def fnExactBackRegisterWrong : ChangeSpec := { name := "fnExactBackRegister", fn := fun _ => fun
  | [d] => { results := [.lit (.bool false)], args := [d] }
  | _ => none }
def FnExactBackRegisterWrongFalsely : Prop := fnExactBackRegisterRow.holds Try.pinned (OpenSpec.ofChange fnExactBackRegisterWrong)

/-- 'laws.FnExactJumpRegister': WHATEVER THE INPUT: true; the input reads as it did. -/
def fnExactJumpRegisterSpec : ChangeSpec := { name := "fnExactJumpRegister", fn := fun _ => fun
  | [d1, d2] => { results := [.lit (.bool true)], args := [d1, d2] }
  | _ => none }
def fnExactJumpRegisterRow : OpenClaim := { program := "ytnpaigpdbjadlaa", sum := "5adb5b1bd7a0455ed21ae849556d5173c5b2f13974938d97f23c19655aee8002", func := "loop.example/spreadspectrum/laws.FnExactJumpRegister", spec := "fnExactJumpRegister", apart := false }
def FnExactJumpRegisterSaid : Prop := fnExactJumpRegisterRow.holds Try.pinned (OpenSpec.ofChange fnExactJumpRegisterSpec)

/-- ITS FALSE NEIGHBOUR: 'it returns false'. Refute it at one input. -/
def fnExactJumpRegisterWrong : ChangeSpec := { name := "fnExactJumpRegister", fn := fun _ => fun
  | [d1, d2] => { results := [.lit (.bool false)], args := [d1, d2] }
  | _ => none }
def FnExactJumpRegisterWrongFalsely : Prop := fnExactJumpRegisterRow.holds Try.pinned (OpenSpec.ofChange fnExactJumpRegisterWrong)

/-- 'laws.FnExactRunRegister': WHATEVER THE INPUT: true; the input reads as it did. -/
def fnExactRunRegisterSpec : ChangeSpec := { name := "fnExactRunRegister", fn := fun _ => fun
  | [d1, d2] => { results := [.lit (.bool true)], args := [d1, d2] }
  | _ => none }
def fnExactRunRegisterRow : OpenClaim := { program := "ytnpaigpdbjadlaa", sum := "5adb5b1bd7a0455ed21ae849556d5173c5b2f13974938d97f23c19655aee8002", func := "loop.example/spreadspectrum/laws.FnExactRunRegister", spec := "fnExactRunRegister", inPlace := ["internal/abi.NoEscape"], unfollowed := true, recurses := true, apart := false }
def FnExactRunRegisterSaid : Prop := fnExactRunRegisterRow.holds Try.pinned (OpenSpec.ofChange fnExactRunRegisterSpec)

/-- ITS FALSE NEIGHBOUR: 'it returns false'. Refute it at one input. -/
def fnExactRunRegisterWrong : ChangeSpec := { name := "fnExactRunRegister", fn := fun _ => fun
  | [d1, d2] => { results := [.lit (.bool false)], args := [d1, d2] }
  | _ => none }
def FnExactRunRegisterWrongFalsely : Prop := fnExactRunRegisterRow.holds Try.pinned (OpenSpec.ofChange fnExactRunRegisterWrong)

/-- 'laws.FnExactRegisterFrom': WHATEVER THE INPUT: true; the input reads as it did. -/
def fnExactRegisterFromSpec : ChangeSpec := { name := "fnExactRegisterFrom", fn := fun _ => fun
  | [d1, d2, d3] => { results := [.lit (.bool true)], args := [d1, d2, d3] }
  | _ => none }
def fnExactRegisterFromRow : OpenClaim := { program := "ytnpaigpdbjadlaa", sum := "5adb5b1bd7a0455ed21ae849556d5173c5b2f13974938d97f23c19655aee8002", func := "loop.example/spreadspectrum/laws.FnExactRegisterFrom", spec := "fnExactRegisterFrom", apart := false }
def FnExactRegisterFromSaid : Prop := fnExactRegisterFromRow.holds Try.pinned (OpenSpec.ofChange fnExactRegisterFromSpec)

/-- ITS FALSE NEIGHBOUR: 'it returns false'. Refute it at one input. -/
def fnExactRegisterFromWrong : ChangeSpec := { name := "fnExactRegisterFrom", fn := fun _ => fun
  | [d1, d2, d3] => { results := [.lit (.bool false)], args := [d1, d2, d3] }
  | _ => none }
def FnExactRegisterFromWrongFalsely : Prop := fnExactRegisterFromRow.holds Try.pinned (OpenSpec.ofChange fnExactRegisterFromWrong)

/-- 'laws.FnExactAddRegisters': WHATEVER THE INPUT: true; the input reads as it did. -/
def fnExactAddRegistersSpec : ChangeSpec := { name := "fnExactAddRegisters", fn := fun _ => fun
  | [d1, d2] => { results := [.lit (.bool true)], args := [d1, d2] }
  | _ => none }
def fnExactAddRegistersRow : OpenClaim := { program := "ytnpaigpdbjadlaa", sum := "5adb5b1bd7a0455ed21ae849556d5173c5b2f13974938d97f23c19655aee8002", func := "loop.example/spreadspectrum/laws.FnExactAddRegisters", spec := "fnExactAddRegisters", apart := false }
def FnExactAddRegistersSaid : Prop := fnExactAddRegistersRow.holds Try.pinned (OpenSpec.ofChange fnExactAddRegistersSpec)

/-- ITS FALSE NEIGHBOUR: 'it returns false'. Refute it at one input. -/
def fnExactAddRegistersWrong : ChangeSpec := { name := "fnExactAddRegisters", fn := fun _ => fun
  | [d1, d2] => { results := [.lit (.bool false)], args := [d1, d2] }
  | _ => none }
def FnExactAddRegistersWrongFalsely : Prop := fnExactAddRegistersRow.holds Try.pinned (OpenSpec.ofChange fnExactAddRegistersWrong)

/-- 'laws.FnStepBits': WHATEVER THE INPUT: true; the input reads as it did. -/
def fnStepBitsSpec : ChangeSpec := { name := "fnStepBits", fn := fun _ => fun
  | [d] => { results := [.lit (.bool true)], args := [d] }
  | _ => none }
def fnStepBitsRow : OpenClaim := { program := "ytnpaigpdbjadlaa", sum := "5adb5b1bd7a0455ed21ae849556d5173c5b2f13974938d97f23c19655aee8002", func := "loop.example/spreadspectrum/laws.FnStepBits", spec := "fnStepBits", inPlace := ["internal/abi.NoEscape"], unfollowed := true, recurses := true, apart := false }
def FnStepBitsSaid : Prop := fnStepBitsRow.holds Try.pinned (OpenSpec.ofChange fnStepBitsSpec)

/-- ITS FALSE NEIGHBOUR: 'it returns false'. Refute it at one input. -/
def fnStepBitsWrong : ChangeSpec := { name := "fnStepBits", fn := fun _ => fun
  | [d] => { results := [.lit (.bool false)], args := [d] }
  | _ => none }
def FnStepBitsWrongFalsely : Prop := fnStepBitsRow.holds Try.pinned (OpenSpec.ofChange fnStepBitsWrong)

/-- 'laws.FnStepBack': WHATEVER THE INPUT: true; the input reads as it did. -/
def fnStepBackSpec : ChangeSpec := { name := "fnStepBack", fn := fun _ => fun
  | [d] => { results := [.lit (.bool true)], args := [d] }
  | _ => none }
def fnStepBackRow : OpenClaim := { program := "ytnpaigpdbjadlaa", sum := "5adb5b1bd7a0455ed21ae849556d5173c5b2f13974938d97f23c19655aee8002", func := "loop.example/spreadspectrum/laws.FnStepBack", spec := "fnStepBack", apart := false }
def FnStepBackSaid : Prop := fnStepBackRow.holds Try.pinned (OpenSpec.ofChange fnStepBackSpec)

/-- ITS FALSE NEIGHBOUR: 'it returns false'. Refute it at one input. -/
def fnStepBackWrong : ChangeSpec := { name := "fnStepBack", fn := fun _ => fun
  | [d] => { results := [.lit (.bool false)], args := [d] }
  | _ => none }
def FnStepBackWrongFalsely : Prop := fnStepBackRow.holds Try.pinned (OpenSpec.ofChange fnStepBackWrong)

/-- 'laws.FnJump': WHATEVER THE INPUT: true; the input reads as it did. -/
def fnJumpSpec : ChangeSpec := { name := "fnJump", fn := fun _ => fun
  | [d1, d2] => { results := [.lit (.bool true)], args := [d1, d2] }
  | _ => none }
def fnJumpRow : OpenClaim := { program := "ytnpaigpdbjadlaa", sum := "5adb5b1bd7a0455ed21ae849556d5173c5b2f13974938d97f23c19655aee8002", func := "loop.example/spreadspectrum/laws.FnJump", spec := "fnJump", apart := false }
def FnJumpSaid : Prop := fnJumpRow.holds Try.pinned (OpenSpec.ofChange fnJumpSpec)

/-- ITS FALSE NEIGHBOUR: 'it returns false'. Refute it at one input. -/
def fnJumpWrong : ChangeSpec := { name := "fnJump", fn := fun _ => fun
  | [d1, d2] => { results := [.lit (.bool false)], args := [d1, d2] }
  | _ => none }
def FnJumpWrongFalsely : Prop := fnJumpRow.holds Try.pinned (OpenSpec.ofChange fnJumpWrong)

/-- 'laws.FnRunSteps': WHATEVER THE INPUT: true; the input reads as it did. -/
def fnRunStepsSpec : ChangeSpec := { name := "fnRunSteps", fn := fun _ => fun
  | [d1, d2] => { results := [.lit (.bool true)], args := [d1, d2] }
  | _ => none }
def fnRunStepsRow : OpenClaim := { program := "ytnpaigpdbjadlaa", sum := "5adb5b1bd7a0455ed21ae849556d5173c5b2f13974938d97f23c19655aee8002", func := "loop.example/spreadspectrum/laws.FnRunSteps", spec := "fnRunSteps", inPlace := ["internal/abi.NoEscape"], unfollowed := true, recurses := true, apart := false }
def FnRunStepsSaid : Prop := fnRunStepsRow.holds Try.pinned (OpenSpec.ofChange fnRunStepsSpec)

/-- ITS FALSE NEIGHBOUR: 'it returns false'. Refute it at one input. -/
def fnRunStepsWrong : ChangeSpec := { name := "fnRunSteps", fn := fun _ => fun
  | [d1, d2] => { results := [.lit (.bool false)], args := [d1, d2] }
  | _ => none }
def FnRunStepsWrongFalsely : Prop := fnRunStepsRow.holds Try.pinned (OpenSpec.ofChange fnRunStepsWrong)

/-- 'laws.FnRegisterFrom': WHATEVER THE INPUT: true; the input reads as it did. -/
def fnRegisterFromSpec : ChangeSpec := { name := "fnRegisterFrom", fn := fun _ => fun
  | [d] => { results := [.lit (.bool true)], args := [d] }
  | _ => none }
def fnRegisterFromRow : OpenClaim := { program := "ytnpaigpdbjadlaa", sum := "5adb5b1bd7a0455ed21ae849556d5173c5b2f13974938d97f23c19655aee8002", func := "loop.example/spreadspectrum/laws.FnRegisterFrom", spec := "fnRegisterFrom", inPlace := ["internal/abi.NoEscape"], unfollowed := true, recurses := true, apart := false }
def FnRegisterFromSaid : Prop := fnRegisterFromRow.holds Try.pinned (OpenSpec.ofChange fnRegisterFromSpec)

/-- ITS FALSE NEIGHBOUR: 'it returns false'. Refute it at one input. -/
def fnRegisterFromWrong : ChangeSpec := { name := "fnRegisterFrom", fn := fun _ => fun
  | [d] => { results := [.lit (.bool false)], args := [d] }
  | _ => none }
def FnRegisterFromWrongFalsely : Prop := fnRegisterFromRow.holds Try.pinned (OpenSpec.ofChange fnRegisterFromWrong)

/-- 'laws.FnAddRegisters': WHATEVER THE INPUT: true; the input reads as it did. -/
def fnAddRegistersSpec : ChangeSpec := { name := "fnAddRegisters", fn := fun _ => fun
  | [d] => { results := [.lit (.bool true)], args := [d] }
  | _ => none }
def fnAddRegistersRow : OpenClaim := { program := "ytnpaigpdbjadlaa", sum := "5adb5b1bd7a0455ed21ae849556d5173c5b2f13974938d97f23c19655aee8002", func := "loop.example/spreadspectrum/laws.FnAddRegisters", spec := "fnAddRegisters", inPlace := ["internal/abi.NoEscape"], unfollowed := true, recurses := true, apart := false }
def FnAddRegistersSaid : Prop := fnAddRegistersRow.holds Try.pinned (OpenSpec.ofChange fnAddRegistersSpec)

/-- ITS FALSE NEIGHBOUR: 'it returns false'. Refute it at one input. -/
def fnAddRegistersWrong : ChangeSpec := { name := "fnAddRegisters", fn := fun _ => fun
  | [d] => { results := [.lit (.bool false)], args := [d] }
  | _ => none }
def FnAddRegistersWrongFalsely : Prop := fnAddRegistersRow.holds Try.pinned (OpenSpec.ofChange fnAddRegistersWrong)

/- THE SECOND FORM. 'bulk': how many values and letters a reading holds, each counted each time it is reached (what is shared counts as often as it is met; a slice's spare places count too). A statement '..UptoSaid' is the law's where the arguments, and the package variables that the reading takes, are together of bulk at most 1048576: NARROWER than '..Said'. Prove '..Said' where nothing that the law and all that it calls make is longer than what came in: it says more and counts as full. Else prove '..UptoSaid'. A law counts once. -/
mutual
def uptoBulk {H : Type} : DataW H → Nat
  | .lit (.string bytes) => bytes.length + 1
  | .lit _ => 1
  | .nil => 1
  | .ptr d => uptoBulk d + 1
  | .slice elems spare => uptoBulkAll elems + uptoBulkAll spare + 1
  | .agg parts => uptoBulkAll parts + 1
  | .iface _ d => uptoBulk d + 1
  | .map entries => uptoBulkEntries entries + 1
  | .held _ => 1
def uptoBulkAll {H : Type} : List (DataW H) → Nat
  | [] => 0
  | d :: r => uptoBulk d + uptoBulkAll r
def uptoBulkEntries {H : Type} : List (Lit × DataW H) → Nat
  | [] => 0
  | x :: r => uptoBulkEntry x + uptoBulkEntries r
def uptoBulkEntry {H : Type} : Lit × DataW H → Nat
  | (.string bytes, d) => bytes.length + uptoBulk d + 1
  | (_, d) => uptoBulk d + 1
 end
def uptoSmall : (H : Type) → List (DataW H) → Bool := fun _ ds => decide (uptoBulkAll ds ≤ 1048576)
def OpenSpec.upto (s : _root_.Go.ChangeSpec) : _root_.Go.OpenSpec := { _root_.Go.OpenSpec.ofChange s with cond := some uptoSmall }

/-- 'laws.FnExactStepRegister', WHERE WHAT IT READS IS OF BULK AT MOST 1048576: true; the input reads as it did. -/
def fnExactStepRegisterUptoRow : OpenClaim := { program := "ytnpaigpdbjadlaa", sum := "5adb5b1bd7a0455ed21ae849556d5173c5b2f13974938d97f23c19655aee8002", func := "loop.example/spreadspectrum/laws.FnExactStepRegister", spec := "fnExactStepRegister", apart := false, narrowed := true }
def FnExactStepRegisterUptoSaid : Prop := fnExactStepRegisterUptoRow.holds Try.pinned (OpenSpec.upto fnExactStepRegisterSpec)

/-- 'laws.FnExactBackRegister', WHERE WHAT IT READS IS OF BULK AT MOST 1048576: true; the input reads as it did. -/
def fnExactBackRegisterUptoRow : OpenClaim := { program := "ytnpaigpdbjadlaa", sum := "5adb5b1bd7a0455ed21ae849556d5173c5b2f13974938d97f23c19655aee8002", func := "loop.example/spreadspectrum/laws.FnExactBackRegister", spec := "fnExactBackRegister", apart := false, narrowed := true }
def FnExactBackRegisterUptoSaid : Prop := fnExactBackRegisterUptoRow.holds Try.pinned (OpenSpec.upto fnExactBackRegisterSpec)

/-- 'laws.FnExactJumpRegister', WHERE WHAT IT READS IS OF BULK AT MOST 1048576: true; the input reads as it did. -/
def fnExactJumpRegisterUptoRow : OpenClaim := { program := "ytnpaigpdbjadlaa", sum := "5adb5b1bd7a0455ed21ae849556d5173c5b2f13974938d97f23c19655aee8002", func := "loop.example/spreadspectrum/laws.FnExactJumpRegister", spec := "fnExactJumpRegister", apart := false, narrowed := true }
def FnExactJumpRegisterUptoSaid : Prop := fnExactJumpRegisterUptoRow.holds Try.pinned (OpenSpec.upto fnExactJumpRegisterSpec)

/-- 'laws.FnExactRunRegister', WHERE WHAT IT READS IS OF BULK AT MOST 1048576: true; the input reads as it did. -/
def fnExactRunRegisterUptoRow : OpenClaim := { program := "ytnpaigpdbjadlaa", sum := "5adb5b1bd7a0455ed21ae849556d5173c5b2f13974938d97f23c19655aee8002", func := "loop.example/spreadspectrum/laws.FnExactRunRegister", spec := "fnExactRunRegister", inPlace := ["internal/abi.NoEscape"], unfollowed := true, recurses := true, apart := false, narrowed := true }
def FnExactRunRegisterUptoSaid : Prop := fnExactRunRegisterUptoRow.holds Try.pinned (OpenSpec.upto fnExactRunRegisterSpec)

/-- 'laws.FnExactRegisterFrom', WHERE WHAT IT READS IS OF BULK AT MOST 1048576: true; the input reads as it did. -/
def fnExactRegisterFromUptoRow : OpenClaim := { program := "ytnpaigpdbjadlaa", sum := "5adb5b1bd7a0455ed21ae849556d5173c5b2f13974938d97f23c19655aee8002", func := "loop.example/spreadspectrum/laws.FnExactRegisterFrom", spec := "fnExactRegisterFrom", apart := false, narrowed := true }
def FnExactRegisterFromUptoSaid : Prop := fnExactRegisterFromUptoRow.holds Try.pinned (OpenSpec.upto fnExactRegisterFromSpec)

/-- 'laws.FnExactAddRegisters', WHERE WHAT IT READS IS OF BULK AT MOST 1048576: true; the input reads as it did. -/
def fnExactAddRegistersUptoRow : OpenClaim := { program := "ytnpaigpdbjadlaa", sum := "5adb5b1bd7a0455ed21ae849556d5173c5b2f13974938d97f23c19655aee8002", func := "loop.example/spreadspectrum/laws.FnExactAddRegisters", spec := "fnExactAddRegisters", apart := false, narrowed := true }
def FnExactAddRegistersUptoSaid : Prop := fnExactAddRegistersUptoRow.holds Try.pinned (OpenSpec.upto fnExactAddRegistersSpec)

/-- 'laws.FnStepBits', WHERE WHAT IT READS IS OF BULK AT MOST 1048576: true; the input reads as it did. -/
def fnStepBitsUptoRow : OpenClaim := { program := "ytnpaigpdbjadlaa", sum := "5adb5b1bd7a0455ed21ae849556d5173c5b2f13974938d97f23c19655aee8002", func := "loop.example/spreadspectrum/laws.FnStepBits", spec := "fnStepBits", inPlace := ["internal/abi.NoEscape"], unfollowed := true, recurses := true, apart := false, narrowed := true }
def FnStepBitsUptoSaid : Prop := fnStepBitsUptoRow.holds Try.pinned (OpenSpec.upto fnStepBitsSpec)

/-- 'laws.FnStepBack', WHERE WHAT IT READS IS OF BULK AT MOST 1048576: true; the input reads as it did. -/
def fnStepBackUptoRow : OpenClaim := { program := "ytnpaigpdbjadlaa", sum := "5adb5b1bd7a0455ed21ae849556d5173c5b2f13974938d97f23c19655aee8002", func := "loop.example/spreadspectrum/laws.FnStepBack", spec := "fnStepBack", apart := false, narrowed := true }
def FnStepBackUptoSaid : Prop := fnStepBackUptoRow.holds Try.pinned (OpenSpec.upto fnStepBackSpec)

/-- 'laws.FnJump', WHERE WHAT IT READS IS OF BULK AT MOST 1048576: true; the input reads as it did. -/
def fnJumpUptoRow : OpenClaim := { program := "ytnpaigpdbjadlaa", sum := "5adb5b1bd7a0455ed21ae849556d5173c5b2f13974938d97f23c19655aee8002", func := "loop.example/spreadspectrum/laws.FnJump", spec := "fnJump", apart := false, narrowed := true }
def FnJumpUptoSaid : Prop := fnJumpUptoRow.holds Try.pinned (OpenSpec.upto fnJumpSpec)

/-- 'laws.FnRunSteps', WHERE WHAT IT READS IS OF BULK AT MOST 1048576: true; the input reads as it did. -/
def fnRunStepsUptoRow : OpenClaim := { program := "ytnpaigpdbjadlaa", sum := "5adb5b1bd7a0455ed21ae849556d5173c5b2f13974938d97f23c19655aee8002", func := "loop.example/spreadspectrum/laws.FnRunSteps", spec := "fnRunSteps", inPlace := ["internal/abi.NoEscape"], unfollowed := true, recurses := true, apart := false, narrowed := true }
def FnRunStepsUptoSaid : Prop := fnRunStepsUptoRow.holds Try.pinned (OpenSpec.upto fnRunStepsSpec)

/-- 'laws.FnRegisterFrom', WHERE WHAT IT READS IS OF BULK AT MOST 1048576: true; the input reads as it did. -/
def fnRegisterFromUptoRow : OpenClaim := { program := "ytnpaigpdbjadlaa", sum := "5adb5b1bd7a0455ed21ae849556d5173c5b2f13974938d97f23c19655aee8002", func := "loop.example/spreadspectrum/laws.FnRegisterFrom", spec := "fnRegisterFrom", inPlace := ["internal/abi.NoEscape"], unfollowed := true, recurses := true, apart := false, narrowed := true }
def FnRegisterFromUptoSaid : Prop := fnRegisterFromUptoRow.holds Try.pinned (OpenSpec.upto fnRegisterFromSpec)

/-- 'laws.FnAddRegisters', WHERE WHAT IT READS IS OF BULK AT MOST 1048576: true; the input reads as it did. -/
def fnAddRegistersUptoRow : OpenClaim := { program := "ytnpaigpdbjadlaa", sum := "5adb5b1bd7a0455ed21ae849556d5173c5b2f13974938d97f23c19655aee8002", func := "loop.example/spreadspectrum/laws.FnAddRegisters", spec := "fnAddRegisters", inPlace := ["internal/abi.NoEscape"], unfollowed := true, recurses := true, apart := false, narrowed := true }
def FnAddRegistersUptoSaid : Prop := fnAddRegistersUptoRow.holds Try.pinned (OpenSpec.upto fnAddRegistersSpec)

end Rows
end Go.Proofs.Ytnpaigpdbjadlaa
