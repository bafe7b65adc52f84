/-
  DERIVED. GIVEN WITH THE SEED: THE CARDS: each row of YtmbahbnadkmnkaaDoorRows.lean that lists a variable, with what it lists TIED to the program's text (the seventh form; the later family's looks); each row that meets fmt, with fmt's text TOLD by the authors' own Lean function (tested against real Go, not proved from fmt's source: count such statements apart). THE CARD IS WHAT COUNTS. Prove the row's statement (the work); the ties are given (YtmbahbnadkmnkaaDoorTie.lean); close each card by the builder's one call (the guide's Derived/Test/ToyasCard.lean, 'card_holds'). Laid BY PROGRAM, IN A SANDBOX (cutbox-door.mjs). By AI agents, Wed Nov 11 2026. No macro, syntax, notation, axiom, sorry.
-/
import Derived.Test.YtmbahbnadkmnkaaDoorRows
import GoSem.ClaimSeven
namespace Go.Proofs.YtmbahbnadkmnkaaDoor
namespace Rows

/-- THE TIED CARD OF 'laws.FnExactPhraseSound'. -/
def fnExactPhraseSoundCard : Claim7 := { stood := { row := fnExactPhraseSoundRow, standIns := [], harness := (true, "844ebbdcc80aae1359b49d89a5243a2b214a6b9caafcc85b1e9074a15e6279d9"), looks := false }, kinds := [], alts := [], laidByText := true, laidKinds := [.data, .pinned], laidTests := true, laidLooks := .later }
def FnExactPhraseSoundCardSaid : Prop := Claim7.holds Tryd.pinned (.plain (OpenSpec.ofChange fnExactPhraseSoundSpec)) fnExactPhraseSoundCard

/-- THE SECOND FORM's CARD OF 'laws.FnExactPhraseSound'. -/
def fnExactPhraseSoundUptoCard : Claim7 := { stood := { row := fnExactPhraseSoundUptoRow, standIns := [], harness := (true, "844ebbdcc80aae1359b49d89a5243a2b214a6b9caafcc85b1e9074a15e6279d9"), looks := false }, kinds := [], alts := [], laidByText := true, laidKinds := [.data, .pinned], laidTests := true, laidLooks := .later }
def FnExactPhraseSoundUptoCardSaid : Prop := Claim7.holds Tryd.pinned (.plain (OpenSpec.upto fnExactPhraseSoundSpec)) fnExactPhraseSoundUptoCard
end Rows
end Go.Proofs.YtmbahbnadkmnkaaDoor
