/-
  DERIVED. GIVEN WITH THE SEED: THE CARDS: each row of YtpacaelnmpdnhaaDoorRows.lean that lists a variable, with what it lists TIED to the program's text (the seventh form; the later family's looks); each row that meets fmt, with fmt's text TOLD by the authors' own Lean function (tested against real Go, not proved from fmt's source: count such statements apart). THE CARD IS WHAT COUNTS. Prove the row's statement (the work); the ties are given (YtpacaelnmpdnhaaDoorTie.lean); close each card by the builder's one call (the guide's Derived/Test/ToyasCard.lean, 'card_holds'). Laid BY PROGRAM, IN A SANDBOX (cutbox-door.mjs). By AI agents, Wed Nov 11 2026. No macro, syntax, notation, axiom, sorry.
-/
import Derived.Test.YtpacaelnmpdnhaaDoorRows
import GoSem.ClaimSeven
namespace Go.Proofs.YtpacaelnmpdnhaaDoor
namespace Rows

/-- THE TIED CARD OF 'laws.FnExactLostBits'. -/
def fnExactLostBitsCard : Claim7 := { stood := { row := fnExactLostBitsRow, standIns := [], harness := (true, "4bf9a61c0ef30606c4a8e588db946f4f1adde925c44947da24dc7bcf030055f3"), looks := false }, kinds := [], alts := [], laidByText := true, laidKinds := [.data, .pinned], laidTests := true, laidLooks := .later }
def FnExactLostBitsCardSaid : Prop := Claim7.holds Tryd.pinned (.plain (OpenSpec.ofChange fnExactLostBitsSpec)) fnExactLostBitsCard

/-- THE TIED CARD OF 'laws.FnExactCombineCopies'. -/
def fnExactCombineCopiesCard : Claim7 := { stood := { row := fnExactCombineCopiesRow, standIns := [], harness := (true, "4bf9a61c0ef30606c4a8e588db946f4f1adde925c44947da24dc7bcf030055f3"), looks := false }, kinds := [], alts := [], laidByText := true, laidKinds := [.data, .pinned], laidTests := true, laidLooks := .later }
def FnExactCombineCopiesCardSaid : Prop := Claim7.holds Tryd.pinned (.plain (OpenSpec.ofChange fnExactCombineCopiesSpec)) fnExactCombineCopiesCard

/-- THE TIED CARD OF 'laws.FnExactCopiesNeeded'. -/
def fnExactCopiesNeededCard : Claim7 := { stood := { row := fnExactCopiesNeededRow, standIns := [], harness := (true, "4bf9a61c0ef30606c4a8e588db946f4f1adde925c44947da24dc7bcf030055f3"), looks := false }, kinds := [], alts := [], laidByText := true, laidKinds := [.data, .pinned], laidTests := true, laidLooks := .later }
def FnExactCopiesNeededCardSaid : Prop := Claim7.holds Tryd.pinned (.plain (OpenSpec.ofChange fnExactCopiesNeededSpec)) fnExactCopiesNeededCard

/-- THE TIED CARD OF 'laws.FnSendHops'. -/
def fnSendHopsCard : Claim7 := { stood := { row := fnSendHopsRow, standIns := [], harness := (true, "4bf9a61c0ef30606c4a8e588db946f4f1adde925c44947da24dc7bcf030055f3"), looks := false }, kinds := [], alts := [], laidByText := true, laidKinds := [.data, .pinned], laidTests := true, laidLooks := .later }
def FnSendHopsCardSaid : Prop := Claim7.holds Tryd.pinned (.plain (OpenSpec.ofChange fnSendHopsSpec)) fnSendHopsCard

/-- THE TIED CARD OF 'laws.FnCombine'. -/
def fnCombineCard : Claim7 := { stood := { row := fnCombineRow, standIns := [], harness := (true, "4bf9a61c0ef30606c4a8e588db946f4f1adde925c44947da24dc7bcf030055f3"), looks := false }, kinds := [], alts := [], laidByText := true, laidKinds := [.data, .pinned], laidTests := true, laidLooks := .later }
def FnCombineCardSaid : Prop := Claim7.holds Tryd.pinned (.plain (OpenSpec.ofChange fnCombineSpec)) fnCombineCard

/-- THE TIED CARD OF 'laws.FnLost'. -/
def fnLostCard : Claim7 := { stood := { row := fnLostRow, standIns := [], harness := (true, "4bf9a61c0ef30606c4a8e588db946f4f1adde925c44947da24dc7bcf030055f3"), looks := false }, kinds := [], alts := [], laidByText := true, laidKinds := [.data, .pinned], laidTests := true, laidLooks := .later }
def FnLostCardSaid : Prop := Claim7.holds Tryd.pinned (.plain (OpenSpec.ofChange fnLostSpec)) fnLostCard

/-- THE TIED CARD OF 'laws.FnCopies'. -/
def fnCopiesCard : Claim7 := { stood := { row := fnCopiesRow, standIns := [], harness := (true, "4bf9a61c0ef30606c4a8e588db946f4f1adde925c44947da24dc7bcf030055f3"), looks := false }, kinds := [], alts := [], laidByText := true, laidKinds := [.data, .pinned], laidTests := true, laidLooks := .later }
def FnCopiesCardSaid : Prop := Claim7.holds Tryd.pinned (.plain (OpenSpec.ofChange fnCopiesSpec)) fnCopiesCard

/-- THE SECOND FORM's CARD OF 'laws.FnExactLostBits'. -/
def fnExactLostBitsUptoCard : Claim7 := { stood := { row := fnExactLostBitsUptoRow, standIns := [], harness := (true, "4bf9a61c0ef30606c4a8e588db946f4f1adde925c44947da24dc7bcf030055f3"), looks := false }, kinds := [], alts := [], laidByText := true, laidKinds := [.data, .pinned], laidTests := true, laidLooks := .later }
def FnExactLostBitsUptoCardSaid : Prop := Claim7.holds Tryd.pinned (.plain (OpenSpec.upto fnExactLostBitsSpec)) fnExactLostBitsUptoCard

/-- THE SECOND FORM's CARD OF 'laws.FnExactCombineCopies'. -/
def fnExactCombineCopiesUptoCard : Claim7 := { stood := { row := fnExactCombineCopiesUptoRow, standIns := [], harness := (true, "4bf9a61c0ef30606c4a8e588db946f4f1adde925c44947da24dc7bcf030055f3"), looks := false }, kinds := [], alts := [], laidByText := true, laidKinds := [.data, .pinned], laidTests := true, laidLooks := .later }
def FnExactCombineCopiesUptoCardSaid : Prop := Claim7.holds Tryd.pinned (.plain (OpenSpec.upto fnExactCombineCopiesSpec)) fnExactCombineCopiesUptoCard

/-- THE SECOND FORM's CARD OF 'laws.FnExactCopiesNeeded'. -/
def fnExactCopiesNeededUptoCard : Claim7 := { stood := { row := fnExactCopiesNeededUptoRow, standIns := [], harness := (true, "4bf9a61c0ef30606c4a8e588db946f4f1adde925c44947da24dc7bcf030055f3"), looks := false }, kinds := [], alts := [], laidByText := true, laidKinds := [.data, .pinned], laidTests := true, laidLooks := .later }
def FnExactCopiesNeededUptoCardSaid : Prop := Claim7.holds Tryd.pinned (.plain (OpenSpec.upto fnExactCopiesNeededSpec)) fnExactCopiesNeededUptoCard

/-- THE SECOND FORM's CARD OF 'laws.FnSendHops'. -/
def fnSendHopsUptoCard : Claim7 := { stood := { row := fnSendHopsUptoRow, standIns := [], harness := (true, "4bf9a61c0ef30606c4a8e588db946f4f1adde925c44947da24dc7bcf030055f3"), looks := false }, kinds := [], alts := [], laidByText := true, laidKinds := [.data, .pinned], laidTests := true, laidLooks := .later }
def FnSendHopsUptoCardSaid : Prop := Claim7.holds Tryd.pinned (.plain (OpenSpec.upto fnSendHopsSpec)) fnSendHopsUptoCard

/-- THE SECOND FORM's CARD OF 'laws.FnCombine'. -/
def fnCombineUptoCard : Claim7 := { stood := { row := fnCombineUptoRow, standIns := [], harness := (true, "4bf9a61c0ef30606c4a8e588db946f4f1adde925c44947da24dc7bcf030055f3"), looks := false }, kinds := [], alts := [], laidByText := true, laidKinds := [.data, .pinned], laidTests := true, laidLooks := .later }
def FnCombineUptoCardSaid : Prop := Claim7.holds Tryd.pinned (.plain (OpenSpec.upto fnCombineSpec)) fnCombineUptoCard

/-- THE SECOND FORM's CARD OF 'laws.FnLost'. -/
def fnLostUptoCard : Claim7 := { stood := { row := fnLostUptoRow, standIns := [], harness := (true, "4bf9a61c0ef30606c4a8e588db946f4f1adde925c44947da24dc7bcf030055f3"), looks := false }, kinds := [], alts := [], laidByText := true, laidKinds := [.data, .pinned], laidTests := true, laidLooks := .later }
def FnLostUptoCardSaid : Prop := Claim7.holds Tryd.pinned (.plain (OpenSpec.upto fnLostSpec)) fnLostUptoCard

/-- THE SECOND FORM's CARD OF 'laws.FnCopies'. -/
def fnCopiesUptoCard : Claim7 := { stood := { row := fnCopiesUptoRow, standIns := [], harness := (true, "4bf9a61c0ef30606c4a8e588db946f4f1adde925c44947da24dc7bcf030055f3"), looks := false }, kinds := [], alts := [], laidByText := true, laidKinds := [.data, .pinned], laidTests := true, laidLooks := .later }
def FnCopiesUptoCardSaid : Prop := Claim7.holds Tryd.pinned (.plain (OpenSpec.upto fnCopiesSpec)) fnCopiesUptoCard
end Rows
end Go.Proofs.YtpacaelnmpdnhaaDoor
