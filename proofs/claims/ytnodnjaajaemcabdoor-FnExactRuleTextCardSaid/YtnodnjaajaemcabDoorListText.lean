/-
  The contracts of spec.ListText and impl.ListText.
-/
import Derived.Test.YtnodnjaajaemcabDoorJoinN
namespace Go.Proofs.YtnodnjaajaemcabDoor
set_option linter.unusedVariables false
open Go.RowKit

end Go.Proofs.YtnodnjaajaemcabDoor
