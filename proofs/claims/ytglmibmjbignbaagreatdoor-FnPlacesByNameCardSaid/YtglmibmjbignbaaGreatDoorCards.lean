/-
  DERIVED. GIVEN WITH THE SEED: THE CARDS: each row of YtglmibmjbignbaaGreatDoorRows.lean that lists a variable, with what it lists TIED to the program's text (the seventh form; the later family's looks); each row that meets fmt, with fmt's text TOLD by the authors' own Lean function (tested against real Go, not proved from fmt's source: count such statements apart). THE CARD IS WHAT COUNTS. Prove the row's statement (the work); the ties are given (YtglmibmjbignbaaGreatDoorTie.lean); close each card by the builder's one call (the guide's Derived/Test/ToyasCard.lean, 'card_holds'). Laid BY PROGRAM, IN A SANDBOX (cutbox-door.mjs). By AI agents, Wed Nov 11 2026. No macro, syntax, notation, axiom, sorry.
-/
import Derived.Test.YtglmibmjbignbaaGreatDoorRows
import GoSem.ClaimSeven
namespace Go.Proofs.YtglmibmjbignbaaGreatDoor
namespace Rows

/-- THE TIED CARD OF 'laws.FnPlaces'. -/
def fnPlacesCard : Claim7 := { stood := { row := fnPlacesRow, standIns := [], harness := (true, "26182184347b03914ca62a3327e10c3135cfb7028448693be2019f49d5344c8b"), looks := true }, kinds := [], alts := [], laidByText := true, laidKinds := [.data, .sentinel, .sentinel, .sentinel, .sentinel, .sentinel, .sentinel, .pinned], laidTests := true, laidLooks := .later }
def FnPlacesCardSaid : Prop := Claim7.holds Tryz.pinned (.plain (OpenSpec.ofChange fnPlacesSpec)) fnPlacesCard

/-- THE TIED CARD OF 'laws.FnPlacesByName'. -/
def fnPlacesByNameCard : Claim7 := { stood := { row := fnPlacesByNameRow, standIns := [], harness := (true, "26182184347b03914ca62a3327e10c3135cfb7028448693be2019f49d5344c8b"), looks := true }, kinds := [], alts := [], laidByText := true, laidKinds := [.data, .handle, .sentinel, .sentinel, .sentinel, .sentinel, .sentinel, .sentinel, .sentinel, .sentinel, .pinned], laidTests := true, laidLooks := .later }
def FnPlacesByNameCardSaid : Prop := Claim7.holds Tryz.pinned (.plain (OpenSpec.ofChange fnPlacesByNameSpec)) fnPlacesByNameCard

/-- THE TIED CARD OF 'laws.FnExactPlacesNamed'. -/
def fnExactPlacesNamedCard : Claim7 := { stood := { row := fnExactPlacesNamedRow, standIns := [], harness := (true, "26182184347b03914ca62a3327e10c3135cfb7028448693be2019f49d5344c8b"), looks := true }, kinds := [], alts := [], laidByText := true, laidKinds := [.data, .sentinel, .sentinel, .sentinel, .sentinel, .sentinel, .sentinel, .pinned], laidTests := true, laidLooks := .later }
def FnExactPlacesNamedCardSaid : Prop := Claim7.holds Tryz.pinned (.plain (OpenSpec.ofChange fnExactPlacesNamedSpec)) fnExactPlacesNamedCard

/-- THE TIED CARD OF 'laws.FnExactPlacesOfKind'. -/
def fnExactPlacesOfKindCard : Claim7 := { stood := { row := fnExactPlacesOfKindRow, standIns := [], harness := (true, "26182184347b03914ca62a3327e10c3135cfb7028448693be2019f49d5344c8b"), looks := true }, kinds := [], alts := [], laidByText := true, laidKinds := [.data, .sentinel, .sentinel, .sentinel, .sentinel, .sentinel, .sentinel, .pinned], laidTests := true, laidLooks := .later }
def FnExactPlacesOfKindCardSaid : Prop := Claim7.holds Tryz.pinned (.plain (OpenSpec.ofChange fnExactPlacesOfKindSpec)) fnExactPlacesOfKindCard

/-- THE TIED CARD OF 'laws.FnExactHomonymsIn'. -/
def fnExactHomonymsInCard : Claim7 := { stood := { row := fnExactHomonymsInRow, standIns := [], harness := (true, "26182184347b03914ca62a3327e10c3135cfb7028448693be2019f49d5344c8b"), looks := true }, kinds := [], alts := [], laidByText := true, laidKinds := [.data, .sentinel, .sentinel, .sentinel, .sentinel, .sentinel, .sentinel, .pinned], laidTests := true, laidLooks := .later }
def FnExactHomonymsInCardSaid : Prop := Claim7.holds Tryz.pinned (.plain (OpenSpec.ofChange fnExactHomonymsInSpec)) fnExactHomonymsInCard

/-- THE TIED CARD OF 'laws.FnExactNameOf'. -/
def fnExactNameOfCard : Claim7 := { stood := { row := fnExactNameOfRow, standIns := [], harness := (true, "26182184347b03914ca62a3327e10c3135cfb7028448693be2019f49d5344c8b"), looks := true }, kinds := [], alts := [], laidByText := true, laidKinds := [.data, .handle, .sentinel, .sentinel, .sentinel, .sentinel, .sentinel, .sentinel, .sentinel, .sentinel, .pinned], laidTests := true, laidLooks := .later }
def FnExactNameOfCardSaid : Prop := Claim7.holds Tryz.pinned (.plain (OpenSpec.ofChange fnExactNameOfSpec)) fnExactNameOfCard

/-- THE SECOND FORM's CARD OF 'laws.FnPlaces'. -/
def fnPlacesUptoCard : Claim7 := { stood := { row := fnPlacesUptoRow, standIns := [], harness := (true, "26182184347b03914ca62a3327e10c3135cfb7028448693be2019f49d5344c8b"), looks := true }, kinds := [], alts := [], laidByText := true, laidKinds := [.data, .sentinel, .sentinel, .sentinel, .sentinel, .sentinel, .sentinel, .pinned], laidTests := true, laidLooks := .later }
def FnPlacesUptoCardSaid : Prop := Claim7.holds Tryz.pinned (.plain (OpenSpec.upto fnPlacesSpec)) fnPlacesUptoCard

/-- THE SECOND FORM's CARD OF 'laws.FnPlacesByName'. -/
def fnPlacesByNameUptoCard : Claim7 := { stood := { row := fnPlacesByNameUptoRow, standIns := [], harness := (true, "26182184347b03914ca62a3327e10c3135cfb7028448693be2019f49d5344c8b"), looks := true }, kinds := [], alts := [], laidByText := true, laidKinds := [.data, .handle, .sentinel, .sentinel, .sentinel, .sentinel, .sentinel, .sentinel, .sentinel, .sentinel, .pinned], laidTests := true, laidLooks := .later }
def FnPlacesByNameUptoCardSaid : Prop := Claim7.holds Tryz.pinned (.plain (OpenSpec.upto fnPlacesByNameSpec)) fnPlacesByNameUptoCard

/-- THE SECOND FORM's CARD OF 'laws.FnExactPlacesNamed'. -/
def fnExactPlacesNamedUptoCard : Claim7 := { stood := { row := fnExactPlacesNamedUptoRow, standIns := [], harness := (true, "26182184347b03914ca62a3327e10c3135cfb7028448693be2019f49d5344c8b"), looks := true }, kinds := [], alts := [], laidByText := true, laidKinds := [.data, .sentinel, .sentinel, .sentinel, .sentinel, .sentinel, .sentinel, .pinned], laidTests := true, laidLooks := .later }
def FnExactPlacesNamedUptoCardSaid : Prop := Claim7.holds Tryz.pinned (.plain (OpenSpec.upto fnExactPlacesNamedSpec)) fnExactPlacesNamedUptoCard

/-- THE SECOND FORM's CARD OF 'laws.FnExactPlacesOfKind'. -/
def fnExactPlacesOfKindUptoCard : Claim7 := { stood := { row := fnExactPlacesOfKindUptoRow, standIns := [], harness := (true, "26182184347b03914ca62a3327e10c3135cfb7028448693be2019f49d5344c8b"), looks := true }, kinds := [], alts := [], laidByText := true, laidKinds := [.data, .sentinel, .sentinel, .sentinel, .sentinel, .sentinel, .sentinel, .pinned], laidTests := true, laidLooks := .later }
def FnExactPlacesOfKindUptoCardSaid : Prop := Claim7.holds Tryz.pinned (.plain (OpenSpec.upto fnExactPlacesOfKindSpec)) fnExactPlacesOfKindUptoCard

/-- THE SECOND FORM's CARD OF 'laws.FnExactHomonymsIn'. -/
def fnExactHomonymsInUptoCard : Claim7 := { stood := { row := fnExactHomonymsInUptoRow, standIns := [], harness := (true, "26182184347b03914ca62a3327e10c3135cfb7028448693be2019f49d5344c8b"), looks := true }, kinds := [], alts := [], laidByText := true, laidKinds := [.data, .sentinel, .sentinel, .sentinel, .sentinel, .sentinel, .sentinel, .pinned], laidTests := true, laidLooks := .later }
def FnExactHomonymsInUptoCardSaid : Prop := Claim7.holds Tryz.pinned (.plain (OpenSpec.upto fnExactHomonymsInSpec)) fnExactHomonymsInUptoCard

/-- THE SECOND FORM's CARD OF 'laws.FnExactNameOf'. -/
def fnExactNameOfUptoCard : Claim7 := { stood := { row := fnExactNameOfUptoRow, standIns := [], harness := (true, "26182184347b03914ca62a3327e10c3135cfb7028448693be2019f49d5344c8b"), looks := true }, kinds := [], alts := [], laidByText := true, laidKinds := [.data, .handle, .sentinel, .sentinel, .sentinel, .sentinel, .sentinel, .sentinel, .sentinel, .sentinel, .pinned], laidTests := true, laidLooks := .later }
def FnExactNameOfUptoCardSaid : Prop := Claim7.holds Tryz.pinned (.plain (OpenSpec.upto fnExactNameOfSpec)) fnExactNameOfUptoCard
end Rows
end Go.Proofs.YtglmibmjbignbaaGreatDoor
