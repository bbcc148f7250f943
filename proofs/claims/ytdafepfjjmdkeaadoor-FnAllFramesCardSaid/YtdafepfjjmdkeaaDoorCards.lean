/-
  DERIVED. GIVEN WITH THE SEED: THE CARDS: each row of YtdafepfjjmdkeaaDoorRows.lean that lists a variable, with what it lists TIED to the program's text (the seventh form; the later family's looks); each row that meets fmt, with fmt's text TOLD by the authors' own Lean function (tested against real Go, not proved from fmt's source: count such statements apart). THE CARD IS WHAT COUNTS. Prove the row's statement (the work); the ties are given (YtdafepfjjmdkeaaDoorTie.lean); close each card by the builder's one call (the guide's Derived/Test/ToyasCard.lean, 'card_holds'). Laid BY PROGRAM, IN A SANDBOX (cutbox-door.mjs). By AI agents, Wed Nov 11 2026. No macro, syntax, notation, axiom, sorry.
-/
import Derived.Test.YtdafepfjjmdkeaaDoorRows
import GoSem.ClaimSeven
namespace Go.Proofs.YtdafepfjjmdkeaaDoor
namespace Rows

/-- THE TIED CARD OF 'laws.FnExactFindFrame'. -/
def fnExactFindFrameCard : Claim7 := { stood := { row := fnExactFindFrameRow, standIns := [], harness := (true, "de0111aeed531379b5c164bec6f9bf701b903e9beb6d7c8f6e896c4c950bd653"), looks := true }, kinds := [], alts := [], laidByText := true, laidKinds := [.handle], laidTests := true, laidLooks := .later }
def FnExactFindFrameCardSaid : Prop := Claim7.holds Tryd.pinned (.plain (OpenSpec.ofChange fnExactFindFrameSpec)) fnExactFindFrameCard

/-- THE TIED CARD OF 'laws.FnExactAllFrames'. -/
def fnExactAllFramesCard : Claim7 := { stood := { row := fnExactAllFramesRow, standIns := [], harness := (true, "de0111aeed531379b5c164bec6f9bf701b903e9beb6d7c8f6e896c4c950bd653"), looks := true }, kinds := [], alts := [], laidByText := true, laidKinds := [.handle], laidTests := true, laidLooks := .later }
def FnExactAllFramesCardSaid : Prop := Claim7.holds Tryd.pinned (.plain (OpenSpec.ofChange fnExactAllFramesSpec)) fnExactAllFramesCard

/-- THE TIED CARD OF 'laws.FnExactFixPolarity'. -/
def fnExactFixPolarityCard : Claim7 := { stood := { row := fnExactFixPolarityRow, standIns := [], harness := (true, "de0111aeed531379b5c164bec6f9bf701b903e9beb6d7c8f6e896c4c950bd653"), looks := true }, kinds := [], alts := [], laidByText := true, laidKinds := [.handle], laidTests := true, laidLooks := .later }
def FnExactFixPolarityCardSaid : Prop := Claim7.holds Tryd.pinned (.plain (OpenSpec.ofChange fnExactFixPolaritySpec)) fnExactFixPolarityCard

/-- THE TIED CARD OF 'laws.FnParseFrame'. -/
def fnParseFrameCard : Claim7 := { stood := { row := fnParseFrameRow, standIns := [], harness := (true, "de0111aeed531379b5c164bec6f9bf701b903e9beb6d7c8f6e896c4c950bd653"), looks := true }, kinds := [], alts := [], laidByText := true, laidKinds := [.handle], laidTests := true, laidLooks := .later }
def FnParseFrameCardSaid : Prop := Claim7.holds Tryd.pinned (.plain (OpenSpec.ofChange fnParseFrameSpec)) fnParseFrameCard

/-- THE TIED CARD OF 'laws.FnFindFrame'. -/
def fnFindFrameCard : Claim7 := { stood := { row := fnFindFrameRow, standIns := [], harness := (true, "de0111aeed531379b5c164bec6f9bf701b903e9beb6d7c8f6e896c4c950bd653"), looks := true }, kinds := [], alts := [], laidByText := true, laidKinds := [.handle], laidTests := true, laidLooks := .later }
def FnFindFrameCardSaid : Prop := Claim7.holds Tryd.pinned (.plain (OpenSpec.ofChange fnFindFrameSpec)) fnFindFrameCard

/-- THE TIED CARD OF 'laws.FnAllFrames'. -/
def fnAllFramesCard : Claim7 := { stood := { row := fnAllFramesRow, standIns := [], harness := (true, "de0111aeed531379b5c164bec6f9bf701b903e9beb6d7c8f6e896c4c950bd653"), looks := true }, kinds := [], alts := [], laidByText := true, laidKinds := [.handle], laidTests := true, laidLooks := .later }
def FnAllFramesCardSaid : Prop := Claim7.holds Tryd.pinned (.plain (OpenSpec.ofChange fnAllFramesSpec)) fnAllFramesCard

/-- THE TIED CARD OF 'laws.FnPolarity'. -/
def fnPolarityCard : Claim7 := { stood := { row := fnPolarityRow, standIns := [], harness := (true, "de0111aeed531379b5c164bec6f9bf701b903e9beb6d7c8f6e896c4c950bd653"), looks := true }, kinds := [], alts := [], laidByText := true, laidKinds := [.handle], laidTests := true, laidLooks := .later }
def FnPolarityCardSaid : Prop := Claim7.holds Tryd.pinned (.plain (OpenSpec.ofChange fnPolaritySpec)) fnPolarityCard

/-- THE SECOND FORM's CARD OF 'laws.FnExactFindFrame'. -/
def fnExactFindFrameUptoCard : Claim7 := { stood := { row := fnExactFindFrameUptoRow, standIns := [], harness := (true, "de0111aeed531379b5c164bec6f9bf701b903e9beb6d7c8f6e896c4c950bd653"), looks := true }, kinds := [], alts := [], laidByText := true, laidKinds := [.handle], laidTests := true, laidLooks := .later }
def FnExactFindFrameUptoCardSaid : Prop := Claim7.holds Tryd.pinned (.plain (OpenSpec.upto fnExactFindFrameSpec)) fnExactFindFrameUptoCard

/-- THE SECOND FORM's CARD OF 'laws.FnExactAllFrames'. -/
def fnExactAllFramesUptoCard : Claim7 := { stood := { row := fnExactAllFramesUptoRow, standIns := [], harness := (true, "de0111aeed531379b5c164bec6f9bf701b903e9beb6d7c8f6e896c4c950bd653"), looks := true }, kinds := [], alts := [], laidByText := true, laidKinds := [.handle], laidTests := true, laidLooks := .later }
def FnExactAllFramesUptoCardSaid : Prop := Claim7.holds Tryd.pinned (.plain (OpenSpec.upto fnExactAllFramesSpec)) fnExactAllFramesUptoCard

/-- THE SECOND FORM's CARD OF 'laws.FnExactFixPolarity'. -/
def fnExactFixPolarityUptoCard : Claim7 := { stood := { row := fnExactFixPolarityUptoRow, standIns := [], harness := (true, "de0111aeed531379b5c164bec6f9bf701b903e9beb6d7c8f6e896c4c950bd653"), looks := true }, kinds := [], alts := [], laidByText := true, laidKinds := [.handle], laidTests := true, laidLooks := .later }
def FnExactFixPolarityUptoCardSaid : Prop := Claim7.holds Tryd.pinned (.plain (OpenSpec.upto fnExactFixPolaritySpec)) fnExactFixPolarityUptoCard

/-- THE SECOND FORM's CARD OF 'laws.FnParseFrame'. -/
def fnParseFrameUptoCard : Claim7 := { stood := { row := fnParseFrameUptoRow, standIns := [], harness := (true, "de0111aeed531379b5c164bec6f9bf701b903e9beb6d7c8f6e896c4c950bd653"), looks := true }, kinds := [], alts := [], laidByText := true, laidKinds := [.handle], laidTests := true, laidLooks := .later }
def FnParseFrameUptoCardSaid : Prop := Claim7.holds Tryd.pinned (.plain (OpenSpec.upto fnParseFrameSpec)) fnParseFrameUptoCard

/-- THE SECOND FORM's CARD OF 'laws.FnFindFrame'. -/
def fnFindFrameUptoCard : Claim7 := { stood := { row := fnFindFrameUptoRow, standIns := [], harness := (true, "de0111aeed531379b5c164bec6f9bf701b903e9beb6d7c8f6e896c4c950bd653"), looks := true }, kinds := [], alts := [], laidByText := true, laidKinds := [.handle], laidTests := true, laidLooks := .later }
def FnFindFrameUptoCardSaid : Prop := Claim7.holds Tryd.pinned (.plain (OpenSpec.upto fnFindFrameSpec)) fnFindFrameUptoCard

/-- THE SECOND FORM's CARD OF 'laws.FnAllFrames'. -/
def fnAllFramesUptoCard : Claim7 := { stood := { row := fnAllFramesUptoRow, standIns := [], harness := (true, "de0111aeed531379b5c164bec6f9bf701b903e9beb6d7c8f6e896c4c950bd653"), looks := true }, kinds := [], alts := [], laidByText := true, laidKinds := [.handle], laidTests := true, laidLooks := .later }
def FnAllFramesUptoCardSaid : Prop := Claim7.holds Tryd.pinned (.plain (OpenSpec.upto fnAllFramesSpec)) fnAllFramesUptoCard

/-- THE SECOND FORM's CARD OF 'laws.FnPolarity'. -/
def fnPolarityUptoCard : Claim7 := { stood := { row := fnPolarityUptoRow, standIns := [], harness := (true, "de0111aeed531379b5c164bec6f9bf701b903e9beb6d7c8f6e896c4c950bd653"), looks := true }, kinds := [], alts := [], laidByText := true, laidKinds := [.handle], laidTests := true, laidLooks := .later }
def FnPolarityUptoCardSaid : Prop := Claim7.holds Tryd.pinned (.plain (OpenSpec.upto fnPolaritySpec)) fnPolarityUptoCard
end Rows
end Go.Proofs.YtdafepfjjmdkeaaDoor
