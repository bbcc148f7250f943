/-
  DERIVED. GIVEN WITH THE SEED: THE CARDS: each row of YtabokoodpobnnaaDoorRows.lean that lists a variable, with what it lists TIED to the program's text (the seventh form; the later family's looks); each row that meets fmt, with fmt's text TOLD by the authors' own Lean function (tested against real Go, not proved from fmt's source: count such statements apart). THE CARD IS WHAT COUNTS. Prove the row's statement (the work); the ties are given (YtabokoodpobnnaaDoorTie.lean); close each card by the builder's one call (the guide's Derived/Test/ToyasCard.lean, 'card_holds'). Laid BY PROGRAM, IN A SANDBOX (cutbox-door.mjs). By AI agents, Wed Nov 11 2026. No macro, syntax, notation, axiom, sorry.
-/
import Derived.Test.YtabokoodpobnnaaDoorRows
import GoSem.ClaimSeven
namespace Go.Proofs.YtabokoodpobnnaaDoor
namespace Rows

/-- THE TIED CARD OF 'laws.FnExactProtectPayload'. -/
def fnExactProtectPayloadCard : Claim7 := { stood := { row := fnExactProtectPayloadRow, standIns := [], harness := (true, "f34a0e7f44723b86702c00481e74af0c831d72fba3e93e1d1cf8a4bf65edf0e6"), looks := false }, kinds := [], alts := [], laidByText := true, laidKinds := [.data], laidTests := true, laidLooks := .later }
def FnExactProtectPayloadCardSaid : Prop := Claim7.holds Tryd.pinned (.plain (OpenSpec.ofChange fnExactProtectPayloadSpec)) fnExactProtectPayloadCard

/-- THE TIED CARD OF 'laws.FnExactOpenPayload'. -/
def fnExactOpenPayloadCard : Claim7 := { stood := { row := fnExactOpenPayloadRow, standIns := [], harness := (true, "f34a0e7f44723b86702c00481e74af0c831d72fba3e93e1d1cf8a4bf65edf0e6"), looks := false }, kinds := [], alts := [], laidByText := true, laidKinds := [.data], laidTests := true, laidLooks := .later }
def FnExactOpenPayloadCardSaid : Prop := Claim7.holds Tryd.pinned (.plain (OpenSpec.ofChange fnExactOpenPayloadSpec)) fnExactOpenPayloadCard

/-- THE TIED CARD OF 'laws.FnHammingDecode'. -/
def fnHammingDecodeCard : Claim7 := { stood := { row := fnHammingDecodeRow, standIns := [], harness := (true, "f34a0e7f44723b86702c00481e74af0c831d72fba3e93e1d1cf8a4bf65edf0e6"), looks := false }, kinds := [], alts := [], laidByText := true, laidKinds := [.data], laidTests := true, laidLooks := .later }
def FnHammingDecodeCardSaid : Prop := Claim7.holds Tryd.pinned (.plain (OpenSpec.ofChange fnHammingDecodeSpec)) fnHammingDecodeCard

/-- THE TIED CARD OF 'laws.FnHammingCorrects'. -/
def fnHammingCorrectsCard : Claim7 := { stood := { row := fnHammingCorrectsRow, standIns := [], harness := (true, "f34a0e7f44723b86702c00481e74af0c831d72fba3e93e1d1cf8a4bf65edf0e6"), looks := false }, kinds := [], alts := [], laidByText := true, laidKinds := [.data], laidTests := true, laidLooks := .later }
def FnHammingCorrectsCardSaid : Prop := Claim7.holds Tryd.pinned (.plain (OpenSpec.ofChange fnHammingCorrectsSpec)) fnHammingCorrectsCard

/-- THE TIED CARD OF 'laws.FnBurst'. -/
def fnBurstCard : Claim7 := { stood := { row := fnBurstRow, standIns := [], harness := (true, "f34a0e7f44723b86702c00481e74af0c831d72fba3e93e1d1cf8a4bf65edf0e6"), looks := false }, kinds := [], alts := [], laidByText := true, laidKinds := [.data], laidTests := true, laidLooks := .later }
def FnBurstCardSaid : Prop := Claim7.holds Tryd.pinned (.plain (OpenSpec.ofChange fnBurstSpec)) fnBurstCard

/-- THE SECOND FORM's CARD OF 'laws.FnExactProtectPayload'. -/
def fnExactProtectPayloadUptoCard : Claim7 := { stood := { row := fnExactProtectPayloadUptoRow, standIns := [], harness := (true, "f34a0e7f44723b86702c00481e74af0c831d72fba3e93e1d1cf8a4bf65edf0e6"), looks := false }, kinds := [], alts := [], laidByText := true, laidKinds := [.data], laidTests := true, laidLooks := .later }
def FnExactProtectPayloadUptoCardSaid : Prop := Claim7.holds Tryd.pinned (.plain (OpenSpec.upto fnExactProtectPayloadSpec)) fnExactProtectPayloadUptoCard

/-- THE SECOND FORM's CARD OF 'laws.FnExactOpenPayload'. -/
def fnExactOpenPayloadUptoCard : Claim7 := { stood := { row := fnExactOpenPayloadUptoRow, standIns := [], harness := (true, "f34a0e7f44723b86702c00481e74af0c831d72fba3e93e1d1cf8a4bf65edf0e6"), looks := false }, kinds := [], alts := [], laidByText := true, laidKinds := [.data], laidTests := true, laidLooks := .later }
def FnExactOpenPayloadUptoCardSaid : Prop := Claim7.holds Tryd.pinned (.plain (OpenSpec.upto fnExactOpenPayloadSpec)) fnExactOpenPayloadUptoCard

/-- THE SECOND FORM's CARD OF 'laws.FnHammingDecode'. -/
def fnHammingDecodeUptoCard : Claim7 := { stood := { row := fnHammingDecodeUptoRow, standIns := [], harness := (true, "f34a0e7f44723b86702c00481e74af0c831d72fba3e93e1d1cf8a4bf65edf0e6"), looks := false }, kinds := [], alts := [], laidByText := true, laidKinds := [.data], laidTests := true, laidLooks := .later }
def FnHammingDecodeUptoCardSaid : Prop := Claim7.holds Tryd.pinned (.plain (OpenSpec.upto fnHammingDecodeSpec)) fnHammingDecodeUptoCard

/-- THE SECOND FORM's CARD OF 'laws.FnHammingCorrects'. -/
def fnHammingCorrectsUptoCard : Claim7 := { stood := { row := fnHammingCorrectsUptoRow, standIns := [], harness := (true, "f34a0e7f44723b86702c00481e74af0c831d72fba3e93e1d1cf8a4bf65edf0e6"), looks := false }, kinds := [], alts := [], laidByText := true, laidKinds := [.data], laidTests := true, laidLooks := .later }
def FnHammingCorrectsUptoCardSaid : Prop := Claim7.holds Tryd.pinned (.plain (OpenSpec.upto fnHammingCorrectsSpec)) fnHammingCorrectsUptoCard

/-- THE SECOND FORM's CARD OF 'laws.FnBurst'. -/
def fnBurstUptoCard : Claim7 := { stood := { row := fnBurstUptoRow, standIns := [], harness := (true, "f34a0e7f44723b86702c00481e74af0c831d72fba3e93e1d1cf8a4bf65edf0e6"), looks := false }, kinds := [], alts := [], laidByText := true, laidKinds := [.data], laidTests := true, laidLooks := .later }
def FnBurstUptoCardSaid : Prop := Claim7.holds Tryd.pinned (.plain (OpenSpec.upto fnBurstSpec)) fnBurstUptoCard
end Rows
end Go.Proofs.YtabokoodpobnnaaDoor
