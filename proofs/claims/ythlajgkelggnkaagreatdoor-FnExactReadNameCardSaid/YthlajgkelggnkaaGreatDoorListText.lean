/-
  The contracts of spec.ListText and impl.ListText.
-/
import Derived.Test.YthlajgkelggnkaaGreatDoorJoinN
namespace Go.Proofs.YthlajgkelggnkaaGreatDoor
set_option linter.unusedVariables false
open Go.RowKit

end Go.Proofs.YthlajgkelggnkaaGreatDoor
