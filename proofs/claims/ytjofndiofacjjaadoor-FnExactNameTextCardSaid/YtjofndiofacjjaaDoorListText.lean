/-
  The contracts of spec.ListText and impl.ListText.
-/
import Derived.Test.YtjofndiofacjjaaDoorJoinN
namespace Go.Proofs.YtjofndiofacjjaaDoor
set_option linter.unusedVariables false
open Go.RowKit

end Go.Proofs.YtjofndiofacjjaaDoor
