/-
  DERIVED. GIVEN WITH THE SEED: THE CARDS: each row of YtippjomkbpiliaaDoorRows.lean that lists a variable, with what it lists TIED to the program's text (the seventh form; the later family's looks); each row that meets fmt, with fmt's text TOLD by the authors' own Lean function (tested against real Go, not proved from fmt's source: count such statements apart). THE CARD IS WHAT COUNTS. Prove the row's statement (the work); the ties are given (YtippjomkbpiliaaDoorTie.lean); close each card by the builder's one call (the guide's Derived/Test/ToyasCard.lean, 'card_holds'). Laid BY PROGRAM, IN A SANDBOX (cutbox-door.mjs). By AI agents, Wed Nov 11 2026. No macro, syntax, notation, axiom, sorry.
-/
import Derived.Test.YtippjomkbpiliaaDoorRows
import GoSem.ClaimSeven
namespace Go.Proofs.YtippjomkbpiliaaDoor
namespace Rows

/-- THE TIED CARD OF 'laws.FnParts'. -/
def fnPartsCard : Claim7 := { stood := { row := fnPartsRow, standIns := [], harness := (true, "070e993458a53e8bb4f5ada8a4bd9a56dede6a4a038cb4186b64c9d1bd255dcb"), looks := false }, kinds := [], alts := [], laidByText := true, laidKinds := [.data, .pinned], laidTests := true, laidLooks := .later }
def FnPartsCardSaid : Prop := Claim7.holds Tryd.pinned (.plain (OpenSpec.ofChange fnPartsSpec)) fnPartsCard

/-- THE TIED CARD OF 'laws.FnExactTakeApart'. -/
def fnExactTakeApartCard : Claim7 := { stood := { row := fnExactTakeApartRow, standIns := [], harness := (true, "070e993458a53e8bb4f5ada8a4bd9a56dede6a4a038cb4186b64c9d1bd255dcb"), looks := false }, kinds := [], alts := [], laidByText := true, laidKinds := [.data, .pinned], laidTests := true, laidLooks := .later }
def FnExactTakeApartCardSaid : Prop := Claim7.holds Tryd.pinned (.plain (OpenSpec.ofChange fnExactTakeApartSpec)) fnExactTakeApartCard

/-- THE TIED CARD OF 'laws.FnExactPutTogether'. -/
def fnExactPutTogetherCard : Claim7 := { stood := { row := fnExactPutTogetherRow, standIns := [], harness := (true, "070e993458a53e8bb4f5ada8a4bd9a56dede6a4a038cb4186b64c9d1bd255dcb"), looks := false }, kinds := [], alts := [], laidByText := true, laidKinds := [.data, .pinned], laidTests := true, laidLooks := .later }
def FnExactPutTogetherCardSaid : Prop := Claim7.holds Tryd.pinned (.plain (OpenSpec.ofChange fnExactPutTogetherSpec)) fnExactPutTogetherCard

/-- THE TIED CARD OF 'laws.FnExactTranslateGeneric'. -/
def fnExactTranslateGenericCard : Claim7 := { stood := { row := fnExactTranslateGenericRow, standIns := [], harness := (true, "070e993458a53e8bb4f5ada8a4bd9a56dede6a4a038cb4186b64c9d1bd255dcb"), looks := false }, kinds := [], alts := [], laidByText := true, laidKinds := [.data, .pinned], laidTests := true, laidLooks := .later }
def FnExactTranslateGenericCardSaid : Prop := Claim7.holds Tryd.pinned (.plain (OpenSpec.ofChange fnExactTranslateGenericSpec)) fnExactTranslateGenericCard

/-- THE SECOND FORM's CARD OF 'laws.FnParts'. -/
def fnPartsUptoCard : Claim7 := { stood := { row := fnPartsUptoRow, standIns := [], harness := (true, "070e993458a53e8bb4f5ada8a4bd9a56dede6a4a038cb4186b64c9d1bd255dcb"), looks := false }, kinds := [], alts := [], laidByText := true, laidKinds := [.data, .pinned], laidTests := true, laidLooks := .later }
def FnPartsUptoCardSaid : Prop := Claim7.holds Tryd.pinned (.plain (OpenSpec.upto fnPartsSpec)) fnPartsUptoCard

/-- THE SECOND FORM's CARD OF 'laws.FnExactTakeApart'. -/
def fnExactTakeApartUptoCard : Claim7 := { stood := { row := fnExactTakeApartUptoRow, standIns := [], harness := (true, "070e993458a53e8bb4f5ada8a4bd9a56dede6a4a038cb4186b64c9d1bd255dcb"), looks := false }, kinds := [], alts := [], laidByText := true, laidKinds := [.data, .pinned], laidTests := true, laidLooks := .later }
def FnExactTakeApartUptoCardSaid : Prop := Claim7.holds Tryd.pinned (.plain (OpenSpec.upto fnExactTakeApartSpec)) fnExactTakeApartUptoCard

/-- THE SECOND FORM's CARD OF 'laws.FnExactPutTogether'. -/
def fnExactPutTogetherUptoCard : Claim7 := { stood := { row := fnExactPutTogetherUptoRow, standIns := [], harness := (true, "070e993458a53e8bb4f5ada8a4bd9a56dede6a4a038cb4186b64c9d1bd255dcb"), looks := false }, kinds := [], alts := [], laidByText := true, laidKinds := [.data, .pinned], laidTests := true, laidLooks := .later }
def FnExactPutTogetherUptoCardSaid : Prop := Claim7.holds Tryd.pinned (.plain (OpenSpec.upto fnExactPutTogetherSpec)) fnExactPutTogetherUptoCard

/-- THE SECOND FORM's CARD OF 'laws.FnExactTranslateGeneric'. -/
def fnExactTranslateGenericUptoCard : Claim7 := { stood := { row := fnExactTranslateGenericUptoRow, standIns := [], harness := (true, "070e993458a53e8bb4f5ada8a4bd9a56dede6a4a038cb4186b64c9d1bd255dcb"), looks := false }, kinds := [], alts := [], laidByText := true, laidKinds := [.data, .pinned], laidTests := true, laidLooks := .later }
def FnExactTranslateGenericUptoCardSaid : Prop := Claim7.holds Tryd.pinned (.plain (OpenSpec.upto fnExactTranslateGenericSpec)) fnExactTranslateGenericUptoCard
end Rows
end Go.Proofs.YtippjomkbpiliaaDoor
