/-
  DERIVED. GIVEN WITH THE SEED: THE CARDS: each row of YtkbkgbhnfopgnaaDoorRows.lean that lists a variable, with what it lists TIED to the program's text (the seventh form; the later family's looks); each row that meets fmt, with fmt's text TOLD by the authors' own Lean function (tested against real Go, not proved from fmt's source: count such statements apart). THE CARD IS WHAT COUNTS. Prove the row's statement (the work); the ties are given (YtkbkgbhnfopgnaaDoorTie.lean); close each card by the builder's one call (the guide's Derived/Test/ToyasCard.lean, 'card_holds'). Laid BY PROGRAM, IN A SANDBOX (cutbox-door.mjs). By AI agents, Wed Nov 11 2026. No macro, syntax, notation, axiom, sorry.
-/
import Derived.Test.YtkbkgbhnfopgnaaDoorRows
import GoSem.ClaimSeven
namespace Go.Proofs.YtkbkgbhnfopgnaaDoor
namespace Rows

/-- THE TIED CARD OF 'laws.FnExactIsPlace'. -/
def fnExactIsPlaceCard : Claim7 := { stood := { row := fnExactIsPlaceRow, standIns := [], harness := (true, "9c86405914152de7e36853095b9586d240c316351b0c1afe5237ac2007234e4b"), looks := false }, kinds := [], alts := [], laidByText := true, laidKinds := [.data, .sentinel, .sentinel, .sentinel, .sentinel, .sentinel, .sentinel, .pinned], laidTests := true, laidLooks := .later }
def FnExactIsPlaceCardSaid : Prop := Claim7.holds Tryd.pinned (.plain (OpenSpec.ofChange fnExactIsPlaceSpec)) fnExactIsPlaceCard

/-- THE TIED CARD OF 'laws.FnExactIsRegister'. -/
def fnExactIsRegisterCard : Claim7 := { stood := { row := fnExactIsRegisterRow, standIns := [], harness := (true, "9c86405914152de7e36853095b9586d240c316351b0c1afe5237ac2007234e4b"), looks := false }, kinds := [], alts := [], laidByText := true, laidKinds := [.data, .sentinel, .sentinel, .sentinel, .sentinel, .sentinel, .sentinel, .pinned], laidTests := true, laidLooks := .later }
def FnExactIsRegisterCardSaid : Prop := Claim7.holds Tryd.pinned (.plain (OpenSpec.ofChange fnExactIsRegisterSpec)) fnExactIsRegisterCard

/-- THE TIED CARD OF 'laws.FnExactFindPlace'. -/
def fnExactFindPlaceCard : Claim7 := { stood := { row := fnExactFindPlaceRow, standIns := [], harness := (true, "9c86405914152de7e36853095b9586d240c316351b0c1afe5237ac2007234e4b"), looks := false }, kinds := [], alts := [], laidByText := true, laidKinds := [.data, .sentinel, .sentinel, .sentinel, .sentinel, .sentinel, .sentinel, .pinned], laidTests := true, laidLooks := .later }
def FnExactFindPlaceCardSaid : Prop := Claim7.holds Tryd.pinned (.plain (OpenSpec.ofChange fnExactFindPlaceSpec)) fnExactFindPlaceCard

/-- THE TIED CARD OF 'laws.FnExactPlacesIn'. -/
def fnExactPlacesInCard : Claim7 := { stood := { row := fnExactPlacesInRow, standIns := [], harness := (true, "9c86405914152de7e36853095b9586d240c316351b0c1afe5237ac2007234e4b"), looks := false }, kinds := [], alts := [], laidByText := true, laidKinds := [.data, .sentinel, .sentinel, .sentinel, .sentinel, .sentinel, .sentinel, .pinned], laidTests := true, laidLooks := .later }
def FnExactPlacesInCardSaid : Prop := Claim7.holds Tryd.pinned (.plain (OpenSpec.ofChange fnExactPlacesInSpec)) fnExactPlacesInCard

/-- THE TIED CARD OF 'laws.FnExactAddPlace'. -/
def fnExactAddPlaceCard : Claim7 := { stood := { row := fnExactAddPlaceRow, standIns := [], harness := (true, "9c86405914152de7e36853095b9586d240c316351b0c1afe5237ac2007234e4b"), looks := false }, kinds := [], alts := [], laidByText := true, laidKinds := [.data, .sentinel, .sentinel, .sentinel, .sentinel, .sentinel, .sentinel, .pinned], laidTests := true, laidLooks := .later }
def FnExactAddPlaceCardSaid : Prop := Claim7.holds Tryd.pinned (.plain (OpenSpec.ofChange fnExactAddPlaceSpec)) fnExactAddPlaceCard

/-- THE TIED CARD OF 'laws.FnExactEndPlace'. -/
def fnExactEndPlaceCard : Claim7 := { stood := { row := fnExactEndPlaceRow, standIns := [], harness := (true, "9c86405914152de7e36853095b9586d240c316351b0c1afe5237ac2007234e4b"), looks := false }, kinds := [], alts := [], laidByText := true, laidKinds := [.data, .sentinel, .sentinel, .sentinel, .sentinel, .sentinel, .sentinel, .pinned], laidTests := true, laidLooks := .later }
def FnExactEndPlaceCardSaid : Prop := Claim7.holds Tryd.pinned (.plain (OpenSpec.ofChange fnExactEndPlaceSpec)) fnExactEndPlaceCard

/-- THE SECOND FORM's CARD OF 'laws.FnExactIsPlace'. -/
def fnExactIsPlaceUptoCard : Claim7 := { stood := { row := fnExactIsPlaceUptoRow, standIns := [], harness := (true, "9c86405914152de7e36853095b9586d240c316351b0c1afe5237ac2007234e4b"), looks := false }, kinds := [], alts := [], laidByText := true, laidKinds := [.data, .sentinel, .sentinel, .sentinel, .sentinel, .sentinel, .sentinel, .pinned], laidTests := true, laidLooks := .later }
def FnExactIsPlaceUptoCardSaid : Prop := Claim7.holds Tryd.pinned (.plain (OpenSpec.upto fnExactIsPlaceSpec)) fnExactIsPlaceUptoCard

/-- THE SECOND FORM's CARD OF 'laws.FnExactIsRegister'. -/
def fnExactIsRegisterUptoCard : Claim7 := { stood := { row := fnExactIsRegisterUptoRow, standIns := [], harness := (true, "9c86405914152de7e36853095b9586d240c316351b0c1afe5237ac2007234e4b"), looks := false }, kinds := [], alts := [], laidByText := true, laidKinds := [.data, .sentinel, .sentinel, .sentinel, .sentinel, .sentinel, .sentinel, .pinned], laidTests := true, laidLooks := .later }
def FnExactIsRegisterUptoCardSaid : Prop := Claim7.holds Tryd.pinned (.plain (OpenSpec.upto fnExactIsRegisterSpec)) fnExactIsRegisterUptoCard

/-- THE SECOND FORM's CARD OF 'laws.FnExactFindPlace'. -/
def fnExactFindPlaceUptoCard : Claim7 := { stood := { row := fnExactFindPlaceUptoRow, standIns := [], harness := (true, "9c86405914152de7e36853095b9586d240c316351b0c1afe5237ac2007234e4b"), looks := false }, kinds := [], alts := [], laidByText := true, laidKinds := [.data, .sentinel, .sentinel, .sentinel, .sentinel, .sentinel, .sentinel, .pinned], laidTests := true, laidLooks := .later }
def FnExactFindPlaceUptoCardSaid : Prop := Claim7.holds Tryd.pinned (.plain (OpenSpec.upto fnExactFindPlaceSpec)) fnExactFindPlaceUptoCard

/-- THE SECOND FORM's CARD OF 'laws.FnExactPlacesIn'. -/
def fnExactPlacesInUptoCard : Claim7 := { stood := { row := fnExactPlacesInUptoRow, standIns := [], harness := (true, "9c86405914152de7e36853095b9586d240c316351b0c1afe5237ac2007234e4b"), looks := false }, kinds := [], alts := [], laidByText := true, laidKinds := [.data, .sentinel, .sentinel, .sentinel, .sentinel, .sentinel, .sentinel, .pinned], laidTests := true, laidLooks := .later }
def FnExactPlacesInUptoCardSaid : Prop := Claim7.holds Tryd.pinned (.plain (OpenSpec.upto fnExactPlacesInSpec)) fnExactPlacesInUptoCard

/-- THE SECOND FORM's CARD OF 'laws.FnExactAddPlace'. -/
def fnExactAddPlaceUptoCard : Claim7 := { stood := { row := fnExactAddPlaceUptoRow, standIns := [], harness := (true, "9c86405914152de7e36853095b9586d240c316351b0c1afe5237ac2007234e4b"), looks := false }, kinds := [], alts := [], laidByText := true, laidKinds := [.data, .sentinel, .sentinel, .sentinel, .sentinel, .sentinel, .sentinel, .pinned], laidTests := true, laidLooks := .later }
def FnExactAddPlaceUptoCardSaid : Prop := Claim7.holds Tryd.pinned (.plain (OpenSpec.upto fnExactAddPlaceSpec)) fnExactAddPlaceUptoCard

/-- THE SECOND FORM's CARD OF 'laws.FnExactEndPlace'. -/
def fnExactEndPlaceUptoCard : Claim7 := { stood := { row := fnExactEndPlaceUptoRow, standIns := [], harness := (true, "9c86405914152de7e36853095b9586d240c316351b0c1afe5237ac2007234e4b"), looks := false }, kinds := [], alts := [], laidByText := true, laidKinds := [.data, .sentinel, .sentinel, .sentinel, .sentinel, .sentinel, .sentinel, .pinned], laidTests := true, laidLooks := .later }
def FnExactEndPlaceUptoCardSaid : Prop := Claim7.holds Tryd.pinned (.plain (OpenSpec.upto fnExactEndPlaceSpec)) fnExactEndPlaceUptoCard
end Rows
end Go.Proofs.YtkbkgbhnfopgnaaDoor
