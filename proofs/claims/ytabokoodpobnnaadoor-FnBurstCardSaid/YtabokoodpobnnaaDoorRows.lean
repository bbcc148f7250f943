/-
  NARROWER THAN 'FOR EVERY INPUT', by the rows' own cells (each row's printed sentence says how): FnExactProtectPayload: laid · FnExactOpenPayload: laid · FnHammingDecode: laid · FnHammingCorrects: laid · FnBurst: laid.
  DERIVED. THE GIVEN ROWS OF THIS SEAT. 5 by the template 'for every input the law returns true; each argument reads behind the call as it read before'; 0 by the template 'total and deterministic' (their statements: YtabokoodpobnnaaDoorTotals.lean).
  GIVEN WITH THE SEED: the statements are not yours to turn. If you find one false, say at which input.
  Laid BY PROGRAM, IN A SANDBOX (cutbox-rows.mjs): the forced cells as the released guide's own fill.sh prints them over the translation ead8cf57670acc68… (all of the seat's roots in one cut). By AI agents, Wed Nov 11 2026. No macro, syntax, notation, axiom, sorry.
-/
import Derived.Test.YtabokoodpobnnaaDoorChecked
import GoSem.Claim
import GoSem.ClaimJoined
import GoSem.ClaimMapViews
import Derived.JoinedTies
import Derived.KernelRfl
namespace Go.Proofs.YtabokoodpobnnaaDoor
/- THE CELL 'sum', in the pinned program and in every row, IS THE sha256 OF THE DUMP (.gsa) THAT YtabokoodpobnnaaDoorProg.lean LOADS. Nothing in Lean hashes anything: it is a label: what it is worth is what the hold of that sum in a sandbox is worth. -/
noncomputable def Tryd.pinned : Pinned := { name := "ytabokoodpobnnaadoor", sum := "ead8cf57670acc6807cdc7d63e28d1a04461f6abe0d75ec3c44686f06114dbac", checked := Tryd.checked }
namespace Rows
def none {H : Type} : Left H := { results := [], args := [] }

/- WHAT THE LISTED PACKAGE-LEVEL VARIABLES READ AS WHEN THE CALL BEGINS. Each datum BY PROGRAM (the guide's laid-datum.mjs) off the statement by which the dump's own 'gosem.cut.vars' lays the variable. In a bare row this is a premise. The card (YtabokoodpobnnaaDoorCards.lean) ties it to the program's text. -/
def laid_loop_example_spreadspectrum_impl_dataPlaces {H : Type} : DataW H := .agg [.lit (.int .i64 3), .lit (.int .i64 5), .lit (.int .i64 6), .lit (.int .i64 7)]

/-- 'laws.FnExactProtectPayload': WHATEVER THE INPUT: true; the input reads as it did. -/
def fnExactProtectPayloadSpec : ChangeSpec := { name := "fnExactProtectPayload", vars := ["loop.example/spreadspectrum/impl.dataPlaces"], fn := fun _ => fun
  | [d1, d2, d3, g1] => { results := [.lit (.bool true)], args := [d1, d2, d3], vars := [g1] }
  | _ => none }
def fnExactProtectPayloadRow : OpenClaim := { program := "ytabokoodpobnnaadoor", sum := "ead8cf57670acc6807cdc7d63e28d1a04461f6abe0d75ec3c44686f06114dbac", func := "loop.example/spreadspectrum/laws.FnExactProtectPayload", spec := "fnExactProtectPayload", inPlace := ["internal/abi.NoEscape", "internal/bytealg.MakeNoZero"], unfollowed := true, recurses := true, named := ["loop.example/spreadspectrum/impl.dataPlaces"], apart := false, laid := [("loop.example/spreadspectrum/impl.dataPlaces", laid_loop_example_spreadspectrum_impl_dataPlaces)] }
def FnExactProtectPayloadSaid : Prop := fnExactProtectPayloadRow.holds Tryd.pinned (OpenSpec.ofChange fnExactProtectPayloadSpec)

/-- ITS FALSE NEIGHBOUR: 'it returns false'. Refute it at one input. -/
def fnExactProtectPayloadWrong : ChangeSpec := { name := "fnExactProtectPayload", vars := ["loop.example/spreadspectrum/impl.dataPlaces"], fn := fun _ => fun
  | [d1, d2, d3, g1] => { results := [.lit (.bool false)], args := [d1, d2, d3], vars := [g1] }
  | _ => none }
def FnExactProtectPayloadWrongFalsely : Prop := fnExactProtectPayloadRow.holds Tryd.pinned (OpenSpec.ofChange fnExactProtectPayloadWrong)

/-- 'laws.FnExactOpenPayload': WHATEVER THE INPUT: true; the input reads as it did. -/
def fnExactOpenPayloadSpec : ChangeSpec := { name := "fnExactOpenPayload", vars := ["loop.example/spreadspectrum/impl.dataPlaces"], fn := fun _ => fun
  | [d1, d2, d3, g1] => { results := [.lit (.bool true)], args := [d1, d2, d3], vars := [g1] }
  | _ => none }
def fnExactOpenPayloadRow : OpenClaim := { program := "ytabokoodpobnnaadoor", sum := "ead8cf57670acc6807cdc7d63e28d1a04461f6abe0d75ec3c44686f06114dbac", func := "loop.example/spreadspectrum/laws.FnExactOpenPayload", spec := "fnExactOpenPayload", inPlace := ["internal/abi.NoEscape"], unfollowed := true, recurses := true, named := ["loop.example/spreadspectrum/impl.dataPlaces"], apart := false, laid := [("loop.example/spreadspectrum/impl.dataPlaces", laid_loop_example_spreadspectrum_impl_dataPlaces)] }
def FnExactOpenPayloadSaid : Prop := fnExactOpenPayloadRow.holds Tryd.pinned (OpenSpec.ofChange fnExactOpenPayloadSpec)

/-- ITS FALSE NEIGHBOUR: 'it returns false'. Refute it at one input. -/
def fnExactOpenPayloadWrong : ChangeSpec := { name := "fnExactOpenPayload", vars := ["loop.example/spreadspectrum/impl.dataPlaces"], fn := fun _ => fun
  | [d1, d2, d3, g1] => { results := [.lit (.bool false)], args := [d1, d2, d3], vars := [g1] }
  | _ => none }
def FnExactOpenPayloadWrongFalsely : Prop := fnExactOpenPayloadRow.holds Tryd.pinned (OpenSpec.ofChange fnExactOpenPayloadWrong)

/-- 'laws.FnHammingDecode': WHATEVER THE INPUT: true; the input reads as it did. -/
def fnHammingDecodeSpec : ChangeSpec := { name := "fnHammingDecode", vars := ["loop.example/spreadspectrum/impl.dataPlaces"], fn := fun _ => fun
  | [d, g1] => { results := [.lit (.bool true)], args := [d], vars := [g1] }
  | _ => none }
def fnHammingDecodeRow : OpenClaim := { program := "ytabokoodpobnnaadoor", sum := "ead8cf57670acc6807cdc7d63e28d1a04461f6abe0d75ec3c44686f06114dbac", func := "loop.example/spreadspectrum/laws.FnHammingDecode", spec := "fnHammingDecode", inPlace := ["internal/abi.NoEscape", "internal/bytealg.MakeNoZero"], recurses := true, named := ["loop.example/spreadspectrum/impl.dataPlaces"], apart := false, laid := [("loop.example/spreadspectrum/impl.dataPlaces", laid_loop_example_spreadspectrum_impl_dataPlaces)] }
def FnHammingDecodeSaid : Prop := fnHammingDecodeRow.holds Tryd.pinned (OpenSpec.ofChange fnHammingDecodeSpec)

/-- ITS FALSE NEIGHBOUR: 'it returns false'. Refute it at one input. -/
def fnHammingDecodeWrong : ChangeSpec := { name := "fnHammingDecode", vars := ["loop.example/spreadspectrum/impl.dataPlaces"], fn := fun _ => fun
  | [d, g1] => { results := [.lit (.bool false)], args := [d], vars := [g1] }
  | _ => none }
def FnHammingDecodeWrongFalsely : Prop := fnHammingDecodeRow.holds Tryd.pinned (OpenSpec.ofChange fnHammingDecodeWrong)

/-- 'laws.FnHammingCorrects': WHATEVER THE INPUT: true; the input reads as it did. -/
def fnHammingCorrectsSpec : ChangeSpec := { name := "fnHammingCorrects", vars := ["loop.example/spreadspectrum/impl.dataPlaces"], fn := fun _ => fun
  | [d1, d2, g1] => { results := [.lit (.bool true)], args := [d1, d2], vars := [g1] }
  | _ => none }
def fnHammingCorrectsRow : OpenClaim := { program := "ytabokoodpobnnaadoor", sum := "ead8cf57670acc6807cdc7d63e28d1a04461f6abe0d75ec3c44686f06114dbac", func := "loop.example/spreadspectrum/laws.FnHammingCorrects", spec := "fnHammingCorrects", inPlace := ["internal/abi.NoEscape", "internal/bytealg.MakeNoZero"], recurses := true, named := ["loop.example/spreadspectrum/impl.dataPlaces"], apart := false, laid := [("loop.example/spreadspectrum/impl.dataPlaces", laid_loop_example_spreadspectrum_impl_dataPlaces)] }
def FnHammingCorrectsSaid : Prop := fnHammingCorrectsRow.holds Tryd.pinned (OpenSpec.ofChange fnHammingCorrectsSpec)

/-- ITS FALSE NEIGHBOUR: 'it returns false'. Refute it at one input. -/
def fnHammingCorrectsWrong : ChangeSpec := { name := "fnHammingCorrects", vars := ["loop.example/spreadspectrum/impl.dataPlaces"], fn := fun _ => fun
  | [d1, d2, g1] => { results := [.lit (.bool false)], args := [d1, d2], vars := [g1] }
  | _ => none }
def FnHammingCorrectsWrongFalsely : Prop := fnHammingCorrectsRow.holds Tryd.pinned (OpenSpec.ofChange fnHammingCorrectsWrong)

/-- 'laws.FnBurst': WHATEVER THE INPUT: true; the input reads as it did. -/
def fnBurstSpec : ChangeSpec := { name := "fnBurst", vars := ["loop.example/spreadspectrum/impl.dataPlaces"], fn := fun _ => fun
  | [d1, d2, g1] => { results := [.lit (.bool true)], args := [d1, d2], vars := [g1] }
  | _ => none }
def fnBurstRow : OpenClaim := { program := "ytabokoodpobnnaadoor", sum := "ead8cf57670acc6807cdc7d63e28d1a04461f6abe0d75ec3c44686f06114dbac", func := "loop.example/spreadspectrum/laws.FnBurst", spec := "fnBurst", inPlace := ["internal/abi.NoEscape", "internal/bytealg.MakeNoZero"], unfollowed := true, recurses := true, named := ["loop.example/spreadspectrum/impl.dataPlaces"], apart := false, laid := [("loop.example/spreadspectrum/impl.dataPlaces", laid_loop_example_spreadspectrum_impl_dataPlaces)] }
def FnBurstSaid : Prop := fnBurstRow.holds Tryd.pinned (OpenSpec.ofChange fnBurstSpec)

/-- ITS FALSE NEIGHBOUR: 'it returns false'. Refute it at one input. -/
def fnBurstWrong : ChangeSpec := { name := "fnBurst", vars := ["loop.example/spreadspectrum/impl.dataPlaces"], fn := fun _ => fun
  | [d1, d2, g1] => { results := [.lit (.bool false)], args := [d1, d2], vars := [g1] }
  | _ => none }
def FnBurstWrongFalsely : Prop := fnBurstRow.holds Tryd.pinned (OpenSpec.ofChange fnBurstWrong)

/- THE SECOND FORM. 'bulk': how many values and letters a reading holds, each counted each time it is reached (what is shared counts as often as it is met; a slice's spare places count too). A statement '..UptoSaid' is the law's where the arguments, and the package variables that the reading takes, are together of bulk at most 1048576: NARROWER than '..Said'. Prove '..Said' where nothing that the law and all that it calls make is longer than what came in: it says more and counts as full. Else prove '..UptoSaid'. A law counts once. -/
mutual
def uptoBulk {H : Type} : DataW H → Nat
  | .lit (.string bytes) => bytes.length + 1
  | .lit _ => 1
  | .nil => 1
  | .ptr d => uptoBulk d + 1
  | .slice elems spare => uptoBulkAll elems + uptoBulkAll spare + 1
  | .agg parts => uptoBulkAll parts + 1
  | .iface _ d => uptoBulk d + 1
  | .map entries => uptoBulkEntries entries + 1
  | .held _ => 1
def uptoBulkAll {H : Type} : List (DataW H) → Nat
  | [] => 0
  | d :: r => uptoBulk d + uptoBulkAll r
def uptoBulkEntries {H : Type} : List (Lit × DataW H) → Nat
  | [] => 0
  | x :: r => uptoBulkEntry x + uptoBulkEntries r
def uptoBulkEntry {H : Type} : Lit × DataW H → Nat
  | (.string bytes, d) => bytes.length + uptoBulk d + 1
  | (_, d) => uptoBulk d + 1
 end
def uptoSmall : (H : Type) → List (DataW H) → Bool := fun _ ds => decide (uptoBulkAll ds ≤ 1048576)
def OpenSpec.upto (s : _root_.Go.ChangeSpec) : _root_.Go.OpenSpec := { _root_.Go.OpenSpec.ofChange s with cond := some uptoSmall }

/-- 'laws.FnExactProtectPayload', WHERE WHAT IT READS IS OF BULK AT MOST 1048576: true; the input reads as it did. -/
def fnExactProtectPayloadUptoRow : OpenClaim := { program := "ytabokoodpobnnaadoor", sum := "ead8cf57670acc6807cdc7d63e28d1a04461f6abe0d75ec3c44686f06114dbac", func := "loop.example/spreadspectrum/laws.FnExactProtectPayload", spec := "fnExactProtectPayload", inPlace := ["internal/abi.NoEscape", "internal/bytealg.MakeNoZero"], unfollowed := true, recurses := true, named := ["loop.example/spreadspectrum/impl.dataPlaces"], apart := false, laid := [("loop.example/spreadspectrum/impl.dataPlaces", laid_loop_example_spreadspectrum_impl_dataPlaces)], narrowed := true }
def FnExactProtectPayloadUptoSaid : Prop := fnExactProtectPayloadUptoRow.holds Tryd.pinned (OpenSpec.upto fnExactProtectPayloadSpec)

/-- 'laws.FnExactOpenPayload', WHERE WHAT IT READS IS OF BULK AT MOST 1048576: true; the input reads as it did. -/
def fnExactOpenPayloadUptoRow : OpenClaim := { program := "ytabokoodpobnnaadoor", sum := "ead8cf57670acc6807cdc7d63e28d1a04461f6abe0d75ec3c44686f06114dbac", func := "loop.example/spreadspectrum/laws.FnExactOpenPayload", spec := "fnExactOpenPayload", inPlace := ["internal/abi.NoEscape"], unfollowed := true, recurses := true, named := ["loop.example/spreadspectrum/impl.dataPlaces"], apart := false, laid := [("loop.example/spreadspectrum/impl.dataPlaces", laid_loop_example_spreadspectrum_impl_dataPlaces)], narrowed := true }
def FnExactOpenPayloadUptoSaid : Prop := fnExactOpenPayloadUptoRow.holds Tryd.pinned (OpenSpec.upto fnExactOpenPayloadSpec)

/-- 'laws.FnHammingDecode', WHERE WHAT IT READS IS OF BULK AT MOST 1048576: true; the input reads as it did. -/
def fnHammingDecodeUptoRow : OpenClaim := { program := "ytabokoodpobnnaadoor", sum := "ead8cf57670acc6807cdc7d63e28d1a04461f6abe0d75ec3c44686f06114dbac", func := "loop.example/spreadspectrum/laws.FnHammingDecode", spec := "fnHammingDecode", inPlace := ["internal/abi.NoEscape", "internal/bytealg.MakeNoZero"], recurses := true, named := ["loop.example/spreadspectrum/impl.dataPlaces"], apart := false, laid := [("loop.example/spreadspectrum/impl.dataPlaces", laid_loop_example_spreadspectrum_impl_dataPlaces)], narrowed := true }
def FnHammingDecodeUptoSaid : Prop := fnHammingDecodeUptoRow.holds Tryd.pinned (OpenSpec.upto fnHammingDecodeSpec)

/-- 'laws.FnHammingCorrects', WHERE WHAT IT READS IS OF BULK AT MOST 1048576: true; the input reads as it did. -/
def fnHammingCorrectsUptoRow : OpenClaim := { program := "ytabokoodpobnnaadoor", sum := "ead8cf57670acc6807cdc7d63e28d1a04461f6abe0d75ec3c44686f06114dbac", func := "loop.example/spreadspectrum/laws.FnHammingCorrects", spec := "fnHammingCorrects", inPlace := ["internal/abi.NoEscape", "internal/bytealg.MakeNoZero"], recurses := true, named := ["loop.example/spreadspectrum/impl.dataPlaces"], apart := false, laid := [("loop.example/spreadspectrum/impl.dataPlaces", laid_loop_example_spreadspectrum_impl_dataPlaces)], narrowed := true }
def FnHammingCorrectsUptoSaid : Prop := fnHammingCorrectsUptoRow.holds Tryd.pinned (OpenSpec.upto fnHammingCorrectsSpec)

/-- 'laws.FnBurst', WHERE WHAT IT READS IS OF BULK AT MOST 1048576: true; the input reads as it did. -/
def fnBurstUptoRow : OpenClaim := { program := "ytabokoodpobnnaadoor", sum := "ead8cf57670acc6807cdc7d63e28d1a04461f6abe0d75ec3c44686f06114dbac", func := "loop.example/spreadspectrum/laws.FnBurst", spec := "fnBurst", inPlace := ["internal/abi.NoEscape", "internal/bytealg.MakeNoZero"], unfollowed := true, recurses := true, named := ["loop.example/spreadspectrum/impl.dataPlaces"], apart := false, laid := [("loop.example/spreadspectrum/impl.dataPlaces", laid_loop_example_spreadspectrum_impl_dataPlaces)], narrowed := true }
def FnBurstUptoSaid : Prop := fnBurstUptoRow.holds Tryd.pinned (OpenSpec.upto fnBurstSpec)

end Rows
end Go.Proofs.YtabokoodpobnnaaDoor
