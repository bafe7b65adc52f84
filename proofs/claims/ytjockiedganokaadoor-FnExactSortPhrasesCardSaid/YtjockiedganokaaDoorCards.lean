/-
  DERIVED. GIVEN WITH THE SEED: THE CARDS: each row of YtjockiedganokaaDoorRows.lean that lists a variable, with what it lists TIED to the program's text (the seventh form; the later family's looks); each row that meets fmt, with fmt's text TOLD by the authors' own Lean function (tested against real Go, not proved from fmt's source: count such statements apart). THE CARD IS WHAT COUNTS. Prove the row's statement (the work); the ties are given (YtjockiedganokaaDoorTie.lean); close each card by the builder's one call (the guide's Derived/Test/ToyasCard.lean, 'card_holds'). Laid BY PROGRAM, IN A SANDBOX (cutbox-door.mjs). By AI agents, Wed Nov 11 2026. No macro, syntax, notation, axiom, sorry.
-/
import Derived.Test.YtjockiedganokaaDoorRows
import GoSem.ClaimSeven
namespace Go.Proofs.YtjockiedganokaaDoor
namespace Rows

/-- THE TIED CARD OF 'laws.FnCompared'. -/
def fnComparedCard : Claim7 := { stood := { row := fnComparedRow, standIns := [], harness := (true, "874d7c73790de13d3d2583034caf0616bbdd556c6907b7e16cd1c9371fe86983"), looks := false }, kinds := [], alts := [], laidByText := true, laidKinds := [.data, .pinned], laidTests := true, laidLooks := .later }
def FnComparedCardSaid : Prop := Claim7.holds Tryd.pinned (.plain (OpenSpec.ofChange fnComparedSpec)) fnComparedCard

/-- THE TIED CARD OF 'laws.FnExactCompareWords'. -/
def fnExactCompareWordsCard : Claim7 := { stood := { row := fnExactCompareWordsRow, standIns := [], harness := (true, "874d7c73790de13d3d2583034caf0616bbdd556c6907b7e16cd1c9371fe86983"), looks := false }, kinds := [], alts := [], laidByText := true, laidKinds := [.data, .pinned], laidTests := true, laidLooks := .later }
def FnExactCompareWordsCardSaid : Prop := Claim7.holds Tryd.pinned (.plain (OpenSpec.ofChange fnExactCompareWordsSpec)) fnExactCompareWordsCard

/-- THE TIED CARD OF 'laws.FnExactComparePhrases'. -/
def fnExactComparePhrasesCard : Claim7 := { stood := { row := fnExactComparePhrasesRow, standIns := [], harness := (true, "874d7c73790de13d3d2583034caf0616bbdd556c6907b7e16cd1c9371fe86983"), looks := false }, kinds := [], alts := [], laidByText := true, laidKinds := [.data, .pinned], laidTests := true, laidLooks := .later }
def FnExactComparePhrasesCardSaid : Prop := Claim7.holds Tryd.pinned (.plain (OpenSpec.ofChange fnExactComparePhrasesSpec)) fnExactComparePhrasesCard

/-- THE TIED CARD OF 'laws.FnExactSortPhrases'. -/
def fnExactSortPhrasesCard : Claim7 := { stood := { row := fnExactSortPhrasesRow, standIns := [], harness := (true, "874d7c73790de13d3d2583034caf0616bbdd556c6907b7e16cd1c9371fe86983"), looks := false }, kinds := [], alts := [], laidByText := true, laidKinds := [.data, .pinned], laidTests := true, laidLooks := .later }
def FnExactSortPhrasesCardSaid : Prop := Claim7.holds Tryd.pinned (.plain (OpenSpec.ofChange fnExactSortPhrasesSpec)) fnExactSortPhrasesCard

/-- THE TIED CARD OF 'laws.FnExactAreSorted'. -/
def fnExactAreSortedCard : Claim7 := { stood := { row := fnExactAreSortedRow, standIns := [], harness := (true, "874d7c73790de13d3d2583034caf0616bbdd556c6907b7e16cd1c9371fe86983"), looks := false }, kinds := [], alts := [], laidByText := true, laidKinds := [.data, .pinned], laidTests := true, laidLooks := .later }
def FnExactAreSortedCardSaid : Prop := Claim7.holds Tryd.pinned (.plain (OpenSpec.ofChange fnExactAreSortedSpec)) fnExactAreSortedCard

/-- THE TIED CARD OF 'laws.FnExactFindPhrase'. -/
def fnExactFindPhraseCard : Claim7 := { stood := { row := fnExactFindPhraseRow, standIns := [], harness := (true, "874d7c73790de13d3d2583034caf0616bbdd556c6907b7e16cd1c9371fe86983"), looks := false }, kinds := [], alts := [], laidByText := true, laidKinds := [.data, .pinned], laidTests := true, laidLooks := .later }
def FnExactFindPhraseCardSaid : Prop := Claim7.holds Tryd.pinned (.plain (OpenSpec.ofChange fnExactFindPhraseSpec)) fnExactFindPhraseCard

/-- THE TIED CARD OF 'laws.FnExactSortKey'. -/
def fnExactSortKeyCard : Claim7 := { stood := { row := fnExactSortKeyRow, standIns := [], harness := (true, "874d7c73790de13d3d2583034caf0616bbdd556c6907b7e16cd1c9371fe86983"), looks := false }, kinds := [], alts := [], laidByText := true, laidKinds := [.data, .data, .data, .data, .pinned], laidTests := true, laidLooks := .later }
def FnExactSortKeyCardSaid : Prop := Claim7.holds Tryd.pinned (.plain (OpenSpec.ofChange fnExactSortKeySpec)) fnExactSortKeyCard

/-- THE TIED CARD OF 'laws.FnExactFirstLetters'. -/
def fnExactFirstLettersCard : Claim7 := { stood := { row := fnExactFirstLettersRow, standIns := [], harness := (true, "874d7c73790de13d3d2583034caf0616bbdd556c6907b7e16cd1c9371fe86983"), looks := false }, kinds := [], alts := [], laidByText := true, laidKinds := [.data, .pinned], laidTests := true, laidLooks := .later }
def FnExactFirstLettersCardSaid : Prop := Claim7.holds Tryd.pinned (.plain (OpenSpec.ofChange fnExactFirstLettersSpec)) fnExactFirstLettersCard

/-- THE SECOND FORM's CARD OF 'laws.FnCompared'. -/
def fnComparedUptoCard : Claim7 := { stood := { row := fnComparedUptoRow, standIns := [], harness := (true, "874d7c73790de13d3d2583034caf0616bbdd556c6907b7e16cd1c9371fe86983"), looks := false }, kinds := [], alts := [], laidByText := true, laidKinds := [.data, .pinned], laidTests := true, laidLooks := .later }
def FnComparedUptoCardSaid : Prop := Claim7.holds Tryd.pinned (.plain (OpenSpec.upto fnComparedSpec)) fnComparedUptoCard

/-- THE SECOND FORM's CARD OF 'laws.FnExactCompareWords'. -/
def fnExactCompareWordsUptoCard : Claim7 := { stood := { row := fnExactCompareWordsUptoRow, standIns := [], harness := (true, "874d7c73790de13d3d2583034caf0616bbdd556c6907b7e16cd1c9371fe86983"), looks := false }, kinds := [], alts := [], laidByText := true, laidKinds := [.data, .pinned], laidTests := true, laidLooks := .later }
def FnExactCompareWordsUptoCardSaid : Prop := Claim7.holds Tryd.pinned (.plain (OpenSpec.upto fnExactCompareWordsSpec)) fnExactCompareWordsUptoCard

/-- THE SECOND FORM's CARD OF 'laws.FnExactComparePhrases'. -/
def fnExactComparePhrasesUptoCard : Claim7 := { stood := { row := fnExactComparePhrasesUptoRow, standIns := [], harness := (true, "874d7c73790de13d3d2583034caf0616bbdd556c6907b7e16cd1c9371fe86983"), looks := false }, kinds := [], alts := [], laidByText := true, laidKinds := [.data, .pinned], laidTests := true, laidLooks := .later }
def FnExactComparePhrasesUptoCardSaid : Prop := Claim7.holds Tryd.pinned (.plain (OpenSpec.upto fnExactComparePhrasesSpec)) fnExactComparePhrasesUptoCard

/-- THE SECOND FORM's CARD OF 'laws.FnExactSortPhrases'. -/
def fnExactSortPhrasesUptoCard : Claim7 := { stood := { row := fnExactSortPhrasesUptoRow, standIns := [], harness := (true, "874d7c73790de13d3d2583034caf0616bbdd556c6907b7e16cd1c9371fe86983"), looks := false }, kinds := [], alts := [], laidByText := true, laidKinds := [.data, .pinned], laidTests := true, laidLooks := .later }
def FnExactSortPhrasesUptoCardSaid : Prop := Claim7.holds Tryd.pinned (.plain (OpenSpec.upto fnExactSortPhrasesSpec)) fnExactSortPhrasesUptoCard

/-- THE SECOND FORM's CARD OF 'laws.FnExactAreSorted'. -/
def fnExactAreSortedUptoCard : Claim7 := { stood := { row := fnExactAreSortedUptoRow, standIns := [], harness := (true, "874d7c73790de13d3d2583034caf0616bbdd556c6907b7e16cd1c9371fe86983"), looks := false }, kinds := [], alts := [], laidByText := true, laidKinds := [.data, .pinned], laidTests := true, laidLooks := .later }
def FnExactAreSortedUptoCardSaid : Prop := Claim7.holds Tryd.pinned (.plain (OpenSpec.upto fnExactAreSortedSpec)) fnExactAreSortedUptoCard

/-- THE SECOND FORM's CARD OF 'laws.FnExactFindPhrase'. -/
def fnExactFindPhraseUptoCard : Claim7 := { stood := { row := fnExactFindPhraseUptoRow, standIns := [], harness := (true, "874d7c73790de13d3d2583034caf0616bbdd556c6907b7e16cd1c9371fe86983"), looks := false }, kinds := [], alts := [], laidByText := true, laidKinds := [.data, .pinned], laidTests := true, laidLooks := .later }
def FnExactFindPhraseUptoCardSaid : Prop := Claim7.holds Tryd.pinned (.plain (OpenSpec.upto fnExactFindPhraseSpec)) fnExactFindPhraseUptoCard

/-- THE SECOND FORM's CARD OF 'laws.FnExactSortKey'. -/
def fnExactSortKeyUptoCard : Claim7 := { stood := { row := fnExactSortKeyUptoRow, standIns := [], harness := (true, "874d7c73790de13d3d2583034caf0616bbdd556c6907b7e16cd1c9371fe86983"), looks := false }, kinds := [], alts := [], laidByText := true, laidKinds := [.data, .data, .data, .data, .pinned], laidTests := true, laidLooks := .later }
def FnExactSortKeyUptoCardSaid : Prop := Claim7.holds Tryd.pinned (.plain (OpenSpec.upto fnExactSortKeySpec)) fnExactSortKeyUptoCard

/-- THE SECOND FORM's CARD OF 'laws.FnExactFirstLetters'. -/
def fnExactFirstLettersUptoCard : Claim7 := { stood := { row := fnExactFirstLettersUptoRow, standIns := [], harness := (true, "874d7c73790de13d3d2583034caf0616bbdd556c6907b7e16cd1c9371fe86983"), looks := false }, kinds := [], alts := [], laidByText := true, laidKinds := [.data, .pinned], laidTests := true, laidLooks := .later }
def FnExactFirstLettersUptoCardSaid : Prop := Claim7.holds Tryd.pinned (.plain (OpenSpec.upto fnExactFirstLettersSpec)) fnExactFirstLettersUptoCard
end Rows
end Go.Proofs.YtjockiedganokaaDoor
