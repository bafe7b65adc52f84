/-
  The contract of the laws' helper eqStringS at two slices with the same texts.
-/
import Derived.Test.YtdbbolnmcbhflaaAreWords
import Derived.Handy
namespace Go.Proofs.Ytdbbolnmcbhflaa
set_option linter.unusedVariables false
open Go.RowKit

end Go.Proofs.Ytdbbolnmcbhflaa
