/-
  DERIVED. GIVEN WITH THE SEED: THE CARDS: each row of YtnacaglpfpdppaaDoorRows.lean that lists a variable, with what it lists TIED to the program's text (the seventh form; the later family's looks); each row that meets fmt, with fmt's text TOLD by the authors' own Lean function (tested against real Go, not proved from fmt's source: count such statements apart). THE CARD IS WHAT COUNTS. Prove the row's statement (the work); the ties are given (YtnacaglpfpdppaaDoorTie.lean); close each card by the builder's one call (the guide's Derived/Test/ToyasCard.lean, 'card_holds'). Laid BY PROGRAM, IN A SANDBOX (cutbox-door.mjs). By AI agents, Wed Nov 11 2026. No macro, syntax, notation, axiom, sorry.
-/
import Derived.Test.YtnacaglpfpdppaaDoorRows
import GoSem.ClaimSeven
namespace Go.Proofs.YtnacaglpfpdppaaDoor
namespace Rows

/-- THE TIED CARD OF 'laws.FnPhrases'. -/
def fnPhrasesCard : Claim7 := { stood := { row := fnPhrasesRow, standIns := [], harness := (true, "0cdc6bf6450e5fcb3cd4165410f1125f072dbef40a3a0090954b114084eec387"), looks := false }, kinds := [], alts := [], laidByText := true, laidKinds := [.data, .pinned], laidTests := true, laidLooks := .later }
def FnPhrasesCardSaid : Prop := Claim7.holds Tryd.pinned (.plain (OpenSpec.ofChange fnPhrasesSpec)) fnPhrasesCard

/-- THE TIED CARD OF 'laws.FnAlphabetTexts'. -/
def fnAlphabetTextsCard : Claim7 := { stood := { row := fnAlphabetTextsRow, standIns := [], harness := (true, "0cdc6bf6450e5fcb3cd4165410f1125f072dbef40a3a0090954b114084eec387"), looks := false }, kinds := [], alts := [], laidByText := true, laidKinds := [.data, .pinned], laidTests := true, laidLooks := .later }
def FnAlphabetTextsCardSaid : Prop := Claim7.holds Tryd.pinned (.plain (OpenSpec.ofChange fnAlphabetTextsSpec)) fnAlphabetTextsCard

/-- THE TIED CARD OF 'laws.FnExactReadAlphabet'. -/
def fnExactReadAlphabetCard : Claim7 := { stood := { row := fnExactReadAlphabetRow, standIns := [], harness := (true, "0cdc6bf6450e5fcb3cd4165410f1125f072dbef40a3a0090954b114084eec387"), looks := false }, kinds := [], alts := [], laidByText := true, laidKinds := [.data, .pinned], laidTests := true, laidLooks := .later }
def FnExactReadAlphabetCardSaid : Prop := Claim7.holds Tryd.pinned (.plain (OpenSpec.ofChange fnExactReadAlphabetSpec)) fnExactReadAlphabetCard

/-- THE SECOND FORM's CARD OF 'laws.FnPhrases'. -/
def fnPhrasesUptoCard : Claim7 := { stood := { row := fnPhrasesUptoRow, standIns := [], harness := (true, "0cdc6bf6450e5fcb3cd4165410f1125f072dbef40a3a0090954b114084eec387"), looks := false }, kinds := [], alts := [], laidByText := true, laidKinds := [.data, .pinned], laidTests := true, laidLooks := .later }
def FnPhrasesUptoCardSaid : Prop := Claim7.holds Tryd.pinned (.plain (OpenSpec.upto fnPhrasesSpec)) fnPhrasesUptoCard

/-- THE SECOND FORM's CARD OF 'laws.FnAlphabetTexts'. -/
def fnAlphabetTextsUptoCard : Claim7 := { stood := { row := fnAlphabetTextsUptoRow, standIns := [], harness := (true, "0cdc6bf6450e5fcb3cd4165410f1125f072dbef40a3a0090954b114084eec387"), looks := false }, kinds := [], alts := [], laidByText := true, laidKinds := [.data, .pinned], laidTests := true, laidLooks := .later }
def FnAlphabetTextsUptoCardSaid : Prop := Claim7.holds Tryd.pinned (.plain (OpenSpec.upto fnAlphabetTextsSpec)) fnAlphabetTextsUptoCard

/-- THE SECOND FORM's CARD OF 'laws.FnExactReadAlphabet'. -/
def fnExactReadAlphabetUptoCard : Claim7 := { stood := { row := fnExactReadAlphabetUptoRow, standIns := [], harness := (true, "0cdc6bf6450e5fcb3cd4165410f1125f072dbef40a3a0090954b114084eec387"), looks := false }, kinds := [], alts := [], laidByText := true, laidKinds := [.data, .pinned], laidTests := true, laidLooks := .later }
def FnExactReadAlphabetUptoCardSaid : Prop := Claim7.holds Tryd.pinned (.plain (OpenSpec.upto fnExactReadAlphabetSpec)) fnExactReadAlphabetUptoCard
end Rows
end Go.Proofs.YtnacaglpfpdppaaDoor
