/-
  DERIVED. GIVEN WITH THE SEED: THE CARDS: each row of YthlilfdndpnbkaaGreatDoorRows.lean that lists a variable, with what it lists TIED to the program's text (the seventh form; the later family's looks); each row that meets fmt, with fmt's text TOLD by the authors' own Lean function (tested against real Go, not proved from fmt's source: count such statements apart). THE CARD IS WHAT COUNTS. Prove the row's statement (the work); the ties are given (YthlilfdndpnbkaaGreatDoorTie.lean); close each card by the builder's one call (the guide's Derived/Test/ToyasCard.lean, 'card_holds'). Laid BY PROGRAM, IN A SANDBOX (cutbox-door.mjs). By AI agents, Wed Nov 11 2026. No macro, syntax, notation, axiom, sorry.
-/
import Derived.Test.YthlilfdndpnbkaaGreatDoorRows
import GoSem.ClaimSeven
namespace Go.Proofs.YthlilfdndpnbkaaGreatDoor
namespace Rows

/-- THE TIED CARD OF 'laws.FnNameTexts'. -/
def fnNameTextsCard : Claim7 := { stood := { row := fnNameTextsRow, standIns := [], harness := (true, "31f0b655e56d40b0a2eaf5a51058e56fe56884deb169d16cd3838d3e7058e5a0"), looks := true }, kinds := [], alts := [], laidByText := true, laidKinds := [.data, .data, .data, .data, .handle, .sentinel, .sentinel, .sentinel, .sentinel, .sentinel, .sentinel, .sentinel, .pinned], laidTests := true, laidLooks := .later }
def FnNameTextsCardSaid : Prop := Claim7.holds Tryz.pinned (.plain (OpenSpec.ofChange fnNameTextsSpec)) fnNameTextsCard

/-- THE TIED CARD OF 'laws.FnNames'. -/
def fnNamesCard : Claim7 := { stood := { row := fnNamesRow, standIns := [], harness := (true, "31f0b655e56d40b0a2eaf5a51058e56fe56884deb169d16cd3838d3e7058e5a0"), looks := true }, kinds := [], alts := [], laidByText := true, laidKinds := [.data, .handle, .sentinel, .sentinel, .sentinel, .sentinel, .sentinel, .sentinel, .sentinel, .sentinel, .pinned], laidTests := true, laidLooks := .later }
def FnNamesCardSaid : Prop := Claim7.holds Tryz.pinned (.plain (OpenSpec.ofChange fnNamesSpec)) fnNamesCard

/-- THE TIED CARD OF 'laws.FnOfficialYears'. -/
def fnOfficialYearsCard : Claim7 := { stood := { row := fnOfficialYearsRow, standIns := [], harness := (true, "31f0b655e56d40b0a2eaf5a51058e56fe56884deb169d16cd3838d3e7058e5a0"), looks := true }, kinds := [], alts := [], laidByText := true, laidKinds := [.data, .handle, .sentinel, .sentinel, .sentinel, .sentinel, .sentinel, .sentinel, .sentinel, .sentinel, .pinned], laidTests := true, laidLooks := .later }
def FnOfficialYearsCardSaid : Prop := Claim7.holds Tryz.pinned (.plain (OpenSpec.ofChange fnOfficialYearsSpec)) fnOfficialYearsCard

/-- THE SECOND FORM's CARD OF 'laws.FnNameTexts'. -/
def fnNameTextsUptoCard : Claim7 := { stood := { row := fnNameTextsUptoRow, standIns := [], harness := (true, "31f0b655e56d40b0a2eaf5a51058e56fe56884deb169d16cd3838d3e7058e5a0"), looks := true }, kinds := [], alts := [], laidByText := true, laidKinds := [.data, .data, .data, .data, .handle, .sentinel, .sentinel, .sentinel, .sentinel, .sentinel, .sentinel, .sentinel, .pinned], laidTests := true, laidLooks := .later }
def FnNameTextsUptoCardSaid : Prop := Claim7.holds Tryz.pinned (.plain (OpenSpec.upto fnNameTextsSpec)) fnNameTextsUptoCard

/-- THE SECOND FORM's CARD OF 'laws.FnNames'. -/
def fnNamesUptoCard : Claim7 := { stood := { row := fnNamesUptoRow, standIns := [], harness := (true, "31f0b655e56d40b0a2eaf5a51058e56fe56884deb169d16cd3838d3e7058e5a0"), looks := true }, kinds := [], alts := [], laidByText := true, laidKinds := [.data, .handle, .sentinel, .sentinel, .sentinel, .sentinel, .sentinel, .sentinel, .sentinel, .sentinel, .pinned], laidTests := true, laidLooks := .later }
def FnNamesUptoCardSaid : Prop := Claim7.holds Tryz.pinned (.plain (OpenSpec.upto fnNamesSpec)) fnNamesUptoCard

/-- THE SECOND FORM's CARD OF 'laws.FnOfficialYears'. -/
def fnOfficialYearsUptoCard : Claim7 := { stood := { row := fnOfficialYearsUptoRow, standIns := [], harness := (true, "31f0b655e56d40b0a2eaf5a51058e56fe56884deb169d16cd3838d3e7058e5a0"), looks := true }, kinds := [], alts := [], laidByText := true, laidKinds := [.data, .handle, .sentinel, .sentinel, .sentinel, .sentinel, .sentinel, .sentinel, .sentinel, .sentinel, .pinned], laidTests := true, laidLooks := .later }
def FnOfficialYearsUptoCardSaid : Prop := Claim7.holds Tryz.pinned (.plain (OpenSpec.upto fnOfficialYearsSpec)) fnOfficialYearsUptoCard
end Rows
end Go.Proofs.YthlilfdndpnbkaaGreatDoor
