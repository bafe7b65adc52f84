/-
  DERIVED. GIVEN WITH THE SEED: THE CARDS: each row of YtjofndiofacjjaaDoorRows.lean that lists a variable, with what it lists TIED to the program's text (the seventh form; the later family's looks); each row that meets fmt, with fmt's text TOLD by the authors' own Lean function (tested against real Go, not proved from fmt's source: count such statements apart). THE CARD IS WHAT COUNTS. Prove the row's statement (the work); the ties are given (YtjofndiofacjjaaDoorTie.lean); close each card by the builder's one call (the guide's Derived/Test/ToyasCard.lean, 'card_holds'). Laid BY PROGRAM, IN A SANDBOX (cutbox-door.mjs). By AI agents, Wed Nov 11 2026. No macro, syntax, notation, axiom, sorry.
-/
import Derived.Test.YtjofndiofacjjaaDoorRows
import GoSem.ClaimSeven
namespace Go.Proofs.YtjofndiofacjjaaDoor
namespace Rows

/-- THE TIED CARD OF 'laws.FnExactIsName'. -/
def fnExactIsNameCard : Claim7 := { stood := { row := fnExactIsNameRow, standIns := [], harness := (true, "df3d6188f1d61640115a9001ffa2926f7036b95537be288d4d26413df7bd88f8"), looks := true }, kinds := [], alts := [], laidByText := true, laidKinds := [.data, .sentinel, .sentinel, .sentinel, .sentinel, .pinned], laidTests := true, laidLooks := .later }
def FnExactIsNameCardSaid : Prop := Claim7.holds Tryd.pinned (.plain (OpenSpec.ofChange fnExactIsNameSpec)) fnExactIsNameCard

/-- THE TIED CARD OF 'laws.FnExactAreNames'. -/
def fnExactAreNamesCard : Claim7 := { stood := { row := fnExactAreNamesRow, standIns := [], harness := (true, "df3d6188f1d61640115a9001ffa2926f7036b95537be288d4d26413df7bd88f8"), looks := true }, kinds := [], alts := [], laidByText := true, laidKinds := [.data, .sentinel, .sentinel, .sentinel, .sentinel, .sentinel, .sentinel, .pinned], laidTests := true, laidLooks := .later }
def FnExactAreNamesCardSaid : Prop := Claim7.holds Tryd.pinned (.plain (OpenSpec.ofChange fnExactAreNamesSpec)) fnExactAreNamesCard

/-- THE TIED CARD OF 'laws.FnExactUsedIn'. -/
def fnExactUsedInCard : Claim7 := { stood := { row := fnExactUsedInRow, standIns := [], harness := (true, "df3d6188f1d61640115a9001ffa2926f7036b95537be288d4d26413df7bd88f8"), looks := true }, kinds := [], alts := [], laidByText := true, laidKinds := [.data, .handle, .sentinel, .sentinel, .sentinel, .sentinel, .sentinel, .sentinel, .sentinel, .pinned], laidTests := true, laidLooks := .later }
def FnExactUsedInCardSaid : Prop := Claim7.holds Tryd.pinned (.plain (OpenSpec.ofChange fnExactUsedInSpec)) fnExactUsedInCard

/-- THE TIED CARD OF 'laws.FnExactOfficialIn'. -/
def fnExactOfficialInCard : Claim7 := { stood := { row := fnExactOfficialInRow, standIns := [], harness := (true, "df3d6188f1d61640115a9001ffa2926f7036b95537be288d4d26413df7bd88f8"), looks := true }, kinds := [], alts := [], laidByText := true, laidKinds := [.data, .handle, .sentinel, .sentinel, .sentinel, .sentinel, .sentinel, .sentinel, .sentinel, .sentinel, .pinned], laidTests := true, laidLooks := .later }
def FnExactOfficialInCardSaid : Prop := Claim7.holds Tryd.pinned (.plain (OpenSpec.ofChange fnExactOfficialInSpec)) fnExactOfficialInCard

/-- THE TIED CARD OF 'laws.FnExactBestIn'. -/
def fnExactBestInCard : Claim7 := { stood := { row := fnExactBestInRow, standIns := [], harness := (true, "df3d6188f1d61640115a9001ffa2926f7036b95537be288d4d26413df7bd88f8"), looks := true }, kinds := [], alts := [], laidByText := true, laidKinds := [.data, .handle, .sentinel, .sentinel, .sentinel, .sentinel, .sentinel, .sentinel, .sentinel, .sentinel, .pinned], laidTests := true, laidLooks := .later }
def FnExactBestInCardSaid : Prop := Claim7.holds Tryd.pinned (.plain (OpenSpec.ofChange fnExactBestInSpec)) fnExactBestInCard

/-- THE TIED CARD OF 'laws.FnExactRenameIn'. -/
def fnExactRenameInCard : Claim7 := { stood := { row := fnExactRenameInRow, standIns := [], harness := (true, "df3d6188f1d61640115a9001ffa2926f7036b95537be288d4d26413df7bd88f8"), looks := true }, kinds := [], alts := [], laidByText := true, laidKinds := [.data, .handle, .sentinel, .sentinel, .sentinel, .sentinel, .sentinel, .sentinel, .sentinel, .sentinel, .pinned], laidTests := true, laidLooks := .later }
def FnExactRenameInCardSaid : Prop := Claim7.holds Tryd.pinned (.plain (OpenSpec.ofChange fnExactRenameInSpec)) fnExactRenameInCard

/-- THE TIED CARD OF 'laws.FnExactLanguagesOf'. -/
def fnExactLanguagesOfCard : Claim7 := { stood := { row := fnExactLanguagesOfRow, standIns := [], harness := (true, "df3d6188f1d61640115a9001ffa2926f7036b95537be288d4d26413df7bd88f8"), looks := true }, kinds := [], alts := [], laidByText := true, laidKinds := [.data, .sentinel, .sentinel, .sentinel, .sentinel, .sentinel, .sentinel, .pinned], laidTests := true, laidLooks := .later }
def FnExactLanguagesOfCardSaid : Prop := Claim7.holds Tryd.pinned (.plain (OpenSpec.ofChange fnExactLanguagesOfSpec)) fnExactLanguagesOfCard

/-- THE TIED CARD OF 'laws.FnExactOfficialYears'. -/
def fnExactOfficialYearsCard : Claim7 := { stood := { row := fnExactOfficialYearsRow, standIns := [], harness := (true, "df3d6188f1d61640115a9001ffa2926f7036b95537be288d4d26413df7bd88f8"), looks := true }, kinds := [], alts := [], laidByText := true, laidKinds := [.data, .sentinel, .sentinel, .sentinel, .sentinel, .sentinel, .sentinel, .pinned], laidTests := true, laidLooks := .later }
def FnExactOfficialYearsCardSaid : Prop := Claim7.holds Tryd.pinned (.plain (OpenSpec.ofChange fnExactOfficialYearsSpec)) fnExactOfficialYearsCard

/-- THE TIED CARD OF 'laws.FnExactNameText'. -/
def fnExactNameTextCard : Claim7 := { stood := { row := fnExactNameTextRow, standIns := [], harness := (true, "df3d6188f1d61640115a9001ffa2926f7036b95537be288d4d26413df7bd88f8"), looks := true }, kinds := [], alts := [], laidByText := true, laidKinds := [.data, .data, .data, .data, .sentinel, .sentinel, .sentinel, .sentinel, .pinned], laidTests := true, laidLooks := .later }
def FnExactNameTextCardSaid : Prop := Claim7.holds Tryd.pinned (.plain (OpenSpec.ofChange fnExactNameTextSpec)) fnExactNameTextCard

/-- THE SECOND FORM's CARD OF 'laws.FnExactIsName'. -/
def fnExactIsNameUptoCard : Claim7 := { stood := { row := fnExactIsNameUptoRow, standIns := [], harness := (true, "df3d6188f1d61640115a9001ffa2926f7036b95537be288d4d26413df7bd88f8"), looks := true }, kinds := [], alts := [], laidByText := true, laidKinds := [.data, .sentinel, .sentinel, .sentinel, .sentinel, .pinned], laidTests := true, laidLooks := .later }
def FnExactIsNameUptoCardSaid : Prop := Claim7.holds Tryd.pinned (.plain (OpenSpec.upto fnExactIsNameSpec)) fnExactIsNameUptoCard

/-- THE SECOND FORM's CARD OF 'laws.FnExactAreNames'. -/
def fnExactAreNamesUptoCard : Claim7 := { stood := { row := fnExactAreNamesUptoRow, standIns := [], harness := (true, "df3d6188f1d61640115a9001ffa2926f7036b95537be288d4d26413df7bd88f8"), looks := true }, kinds := [], alts := [], laidByText := true, laidKinds := [.data, .sentinel, .sentinel, .sentinel, .sentinel, .sentinel, .sentinel, .pinned], laidTests := true, laidLooks := .later }
def FnExactAreNamesUptoCardSaid : Prop := Claim7.holds Tryd.pinned (.plain (OpenSpec.upto fnExactAreNamesSpec)) fnExactAreNamesUptoCard

/-- THE SECOND FORM's CARD OF 'laws.FnExactUsedIn'. -/
def fnExactUsedInUptoCard : Claim7 := { stood := { row := fnExactUsedInUptoRow, standIns := [], harness := (true, "df3d6188f1d61640115a9001ffa2926f7036b95537be288d4d26413df7bd88f8"), looks := true }, kinds := [], alts := [], laidByText := true, laidKinds := [.data, .handle, .sentinel, .sentinel, .sentinel, .sentinel, .sentinel, .sentinel, .sentinel, .pinned], laidTests := true, laidLooks := .later }
def FnExactUsedInUptoCardSaid : Prop := Claim7.holds Tryd.pinned (.plain (OpenSpec.upto fnExactUsedInSpec)) fnExactUsedInUptoCard

/-- THE SECOND FORM's CARD OF 'laws.FnExactOfficialIn'. -/
def fnExactOfficialInUptoCard : Claim7 := { stood := { row := fnExactOfficialInUptoRow, standIns := [], harness := (true, "df3d6188f1d61640115a9001ffa2926f7036b95537be288d4d26413df7bd88f8"), looks := true }, kinds := [], alts := [], laidByText := true, laidKinds := [.data, .handle, .sentinel, .sentinel, .sentinel, .sentinel, .sentinel, .sentinel, .sentinel, .sentinel, .pinned], laidTests := true, laidLooks := .later }
def FnExactOfficialInUptoCardSaid : Prop := Claim7.holds Tryd.pinned (.plain (OpenSpec.upto fnExactOfficialInSpec)) fnExactOfficialInUptoCard

/-- THE SECOND FORM's CARD OF 'laws.FnExactBestIn'. -/
def fnExactBestInUptoCard : Claim7 := { stood := { row := fnExactBestInUptoRow, standIns := [], harness := (true, "df3d6188f1d61640115a9001ffa2926f7036b95537be288d4d26413df7bd88f8"), looks := true }, kinds := [], alts := [], laidByText := true, laidKinds := [.data, .handle, .sentinel, .sentinel, .sentinel, .sentinel, .sentinel, .sentinel, .sentinel, .sentinel, .pinned], laidTests := true, laidLooks := .later }
def FnExactBestInUptoCardSaid : Prop := Claim7.holds Tryd.pinned (.plain (OpenSpec.upto fnExactBestInSpec)) fnExactBestInUptoCard

/-- THE SECOND FORM's CARD OF 'laws.FnExactRenameIn'. -/
def fnExactRenameInUptoCard : Claim7 := { stood := { row := fnExactRenameInUptoRow, standIns := [], harness := (true, "df3d6188f1d61640115a9001ffa2926f7036b95537be288d4d26413df7bd88f8"), looks := true }, kinds := [], alts := [], laidByText := true, laidKinds := [.data, .handle, .sentinel, .sentinel, .sentinel, .sentinel, .sentinel, .sentinel, .sentinel, .sentinel, .pinned], laidTests := true, laidLooks := .later }
def FnExactRenameInUptoCardSaid : Prop := Claim7.holds Tryd.pinned (.plain (OpenSpec.upto fnExactRenameInSpec)) fnExactRenameInUptoCard

/-- THE SECOND FORM's CARD OF 'laws.FnExactLanguagesOf'. -/
def fnExactLanguagesOfUptoCard : Claim7 := { stood := { row := fnExactLanguagesOfUptoRow, standIns := [], harness := (true, "df3d6188f1d61640115a9001ffa2926f7036b95537be288d4d26413df7bd88f8"), looks := true }, kinds := [], alts := [], laidByText := true, laidKinds := [.data, .sentinel, .sentinel, .sentinel, .sentinel, .sentinel, .sentinel, .pinned], laidTests := true, laidLooks := .later }
def FnExactLanguagesOfUptoCardSaid : Prop := Claim7.holds Tryd.pinned (.plain (OpenSpec.upto fnExactLanguagesOfSpec)) fnExactLanguagesOfUptoCard

/-- THE SECOND FORM's CARD OF 'laws.FnExactOfficialYears'. -/
def fnExactOfficialYearsUptoCard : Claim7 := { stood := { row := fnExactOfficialYearsUptoRow, standIns := [], harness := (true, "df3d6188f1d61640115a9001ffa2926f7036b95537be288d4d26413df7bd88f8"), looks := true }, kinds := [], alts := [], laidByText := true, laidKinds := [.data, .sentinel, .sentinel, .sentinel, .sentinel, .sentinel, .sentinel, .pinned], laidTests := true, laidLooks := .later }
def FnExactOfficialYearsUptoCardSaid : Prop := Claim7.holds Tryd.pinned (.plain (OpenSpec.upto fnExactOfficialYearsSpec)) fnExactOfficialYearsUptoCard

/-- THE SECOND FORM's CARD OF 'laws.FnExactNameText'. -/
def fnExactNameTextUptoCard : Claim7 := { stood := { row := fnExactNameTextUptoRow, standIns := [], harness := (true, "df3d6188f1d61640115a9001ffa2926f7036b95537be288d4d26413df7bd88f8"), looks := true }, kinds := [], alts := [], laidByText := true, laidKinds := [.data, .data, .data, .data, .sentinel, .sentinel, .sentinel, .sentinel, .pinned], laidTests := true, laidLooks := .later }
def FnExactNameTextUptoCardSaid : Prop := Claim7.holds Tryd.pinned (.plain (OpenSpec.upto fnExactNameTextSpec)) fnExactNameTextUptoCard
end Rows
end Go.Proofs.YtjofndiofacjjaaDoor
