/-
  The contracts of spec.ListText and impl.ListText.
-/
import Derived.Test.YtnfdbpfegmodcaaDoorJoinN
namespace Go.Proofs.YtnfdbpfegmodcaaDoor
set_option linter.unusedVariables false
open Go.RowKit

end Go.Proofs.YtnfdbpfegmodcaaDoor
