/-
  DERIVED. GIVEN WITH THE SEED: THE CARDS: each row of YthlajgkelggnkaaGreatDoorRows.lean that lists a variable, with what it lists TIED to the program's text (the seventh form; the later family's looks); each row that meets fmt, with fmt's text TOLD by the authors' own Lean function (tested against real Go, not proved from fmt's source: count such statements apart). THE CARD IS WHAT COUNTS. Prove the row's statement (the work); the ties are given (YthlajgkelggnkaaGreatDoorTie.lean); close each card by the builder's one call (the guide's Derived/Test/ToyasCard.lean, 'card_holds'). Laid BY PROGRAM, IN A SANDBOX (cutbox-door.mjs). By AI agents, Wed Nov 11 2026. No macro, syntax, notation, axiom, sorry.
-/
import Derived.Test.YthlajgkelggnkaaGreatDoorRows
import GoSem.ClaimSeven
namespace Go.Proofs.YthlajgkelggnkaaGreatDoor
namespace Rows

/-- THE TIED CARD OF 'laws.FnNameTexts'. -/
def fnNameTextsCard : Claim7 := { stood := { row := fnNameTextsRow, standIns := [], harness := (true, "2c3c2cde932a2a43c630c0cc95510325e35a3152541ba63f38db80b7624d69ea"), looks := true }, kinds := [], alts := [], laidByText := true, laidKinds := [.data, .data, .data, .data, .handle, .sentinel, .sentinel, .sentinel, .sentinel, .sentinel, .sentinel, .sentinel, .pinned], laidTests := true, laidLooks := .later }
def FnNameTextsCardSaid : Prop := Claim7.holds Tryz.pinned (.plain (OpenSpec.ofChange fnNameTextsSpec)) fnNameTextsCard

/-- THE TIED CARD OF 'laws.FnExactReadName'. -/
def fnExactReadNameCard : Claim7 := { stood := { row := fnExactReadNameRow, standIns := [], harness := (true, "2c3c2cde932a2a43c630c0cc95510325e35a3152541ba63f38db80b7624d69ea"), looks := true }, kinds := [], alts := [], laidByText := true, laidKinds := [.data, .data, .data, .data, .handle, .sentinel, .sentinel, .sentinel, .sentinel, .sentinel, .sentinel, .sentinel, .pinned], laidTests := true, laidLooks := .later }
def FnExactReadNameCardSaid : Prop := Claim7.holds Tryz.pinned (.plain (OpenSpec.ofChange fnExactReadNameSpec)) fnExactReadNameCard

/-- THE SECOND FORM's CARD OF 'laws.FnNameTexts'. -/
def fnNameTextsUptoCard : Claim7 := { stood := { row := fnNameTextsUptoRow, standIns := [], harness := (true, "2c3c2cde932a2a43c630c0cc95510325e35a3152541ba63f38db80b7624d69ea"), looks := true }, kinds := [], alts := [], laidByText := true, laidKinds := [.data, .data, .data, .data, .handle, .sentinel, .sentinel, .sentinel, .sentinel, .sentinel, .sentinel, .sentinel, .pinned], laidTests := true, laidLooks := .later }
def FnNameTextsUptoCardSaid : Prop := Claim7.holds Tryz.pinned (.plain (OpenSpec.upto fnNameTextsSpec)) fnNameTextsUptoCard

/-- THE SECOND FORM's CARD OF 'laws.FnExactReadName'. -/
def fnExactReadNameUptoCard : Claim7 := { stood := { row := fnExactReadNameUptoRow, standIns := [], harness := (true, "2c3c2cde932a2a43c630c0cc95510325e35a3152541ba63f38db80b7624d69ea"), looks := true }, kinds := [], alts := [], laidByText := true, laidKinds := [.data, .data, .data, .data, .handle, .sentinel, .sentinel, .sentinel, .sentinel, .sentinel, .sentinel, .sentinel, .pinned], laidTests := true, laidLooks := .later }
def FnExactReadNameUptoCardSaid : Prop := Claim7.holds Tryz.pinned (.plain (OpenSpec.upto fnExactReadNameSpec)) fnExactReadNameUptoCard
end Rows
end Go.Proofs.YthlajgkelggnkaaGreatDoor
