/-
  The contract of the laws' helper eqStringS at two slices with the same texts.
-/
import Derived.Test.YtmbahbnadkmnkaaDoorAreWords
import Derived.Handy
namespace Go.Proofs.YtmbahbnadkmnkaaDoor
set_option linter.unusedVariables false
open Go.RowKit

end Go.Proofs.YtmbahbnadkmnkaaDoor
