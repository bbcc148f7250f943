/-
  DERIVED. GIVEN WITH THE SEED: THE CARDS: each row of YtdmpbcbbbjceiaaDoorRows.lean that lists a variable, with what it lists TIED to the program's text (the seventh form; the later family's looks); each row that meets fmt, with fmt's text TOLD by the authors' own Lean function (tested against real Go, not proved from fmt's source: count such statements apart). THE CARD IS WHAT COUNTS. Prove the row's statement (the work); the ties are given (YtdmpbcbbbjceiaaDoorTie.lean); close each card by the builder's one call (the guide's Derived/Test/ToyasCard.lean, 'card_holds'). Laid BY PROGRAM, IN A SANDBOX (cutbox-door.mjs). By AI agents, Wed Nov 11 2026. No macro, syntax, notation, axiom, sorry.
-/
import Derived.Test.YtdmpbcbbbjceiaaDoorRows
import GoSem.ClaimSeven
namespace Go.Proofs.YtdmpbcbbbjceiaaDoor
namespace Rows

/-- THE TIED CARD OF 'laws.FnExactHammingEncode'. -/
def fnExactHammingEncodeCard : Claim7 := { stood := { row := fnExactHammingEncodeRow, standIns := [], harness := (true, "be1cb384578c6d9d38222ce7c4fda0db288d9e827e9dacd6278098ade583b3a9"), looks := false }, kinds := [], alts := [], laidByText := true, laidKinds := [.data], laidTests := true, laidLooks := .later }
def FnExactHammingEncodeCardSaid : Prop := Claim7.holds Tryd.pinned (.plain (OpenSpec.ofChange fnExactHammingEncodeSpec)) fnExactHammingEncodeCard

/-- THE TIED CARD OF 'laws.FnExactHammingDecode'. -/
def fnExactHammingDecodeCard : Claim7 := { stood := { row := fnExactHammingDecodeRow, standIns := [], harness := (true, "be1cb384578c6d9d38222ce7c4fda0db288d9e827e9dacd6278098ade583b3a9"), looks := false }, kinds := [], alts := [], laidByText := true, laidKinds := [.data], laidTests := true, laidLooks := .later }
def FnExactHammingDecodeCardSaid : Prop := Claim7.holds Tryd.pinned (.plain (OpenSpec.ofChange fnExactHammingDecodeSpec)) fnExactHammingDecodeCard

/-- THE SECOND FORM's CARD OF 'laws.FnExactHammingEncode'. -/
def fnExactHammingEncodeUptoCard : Claim7 := { stood := { row := fnExactHammingEncodeUptoRow, standIns := [], harness := (true, "be1cb384578c6d9d38222ce7c4fda0db288d9e827e9dacd6278098ade583b3a9"), looks := false }, kinds := [], alts := [], laidByText := true, laidKinds := [.data], laidTests := true, laidLooks := .later }
def FnExactHammingEncodeUptoCardSaid : Prop := Claim7.holds Tryd.pinned (.plain (OpenSpec.upto fnExactHammingEncodeSpec)) fnExactHammingEncodeUptoCard

/-- THE SECOND FORM's CARD OF 'laws.FnExactHammingDecode'. -/
def fnExactHammingDecodeUptoCard : Claim7 := { stood := { row := fnExactHammingDecodeUptoRow, standIns := [], harness := (true, "be1cb384578c6d9d38222ce7c4fda0db288d9e827e9dacd6278098ade583b3a9"), looks := false }, kinds := [], alts := [], laidByText := true, laidKinds := [.data], laidTests := true, laidLooks := .later }
def FnExactHammingDecodeUptoCardSaid : Prop := Claim7.holds Tryd.pinned (.plain (OpenSpec.upto fnExactHammingDecodeSpec)) fnExactHammingDecodeUptoCard
end Rows
end Go.Proofs.YtdmpbcbbbjceiaaDoor
