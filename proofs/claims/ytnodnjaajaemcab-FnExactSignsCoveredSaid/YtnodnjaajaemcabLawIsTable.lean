/-
  The law of IsTable: its call answers true, and nothing that was there changes.
-/
import Derived.Test.YtnodnjaajaemcabFinder
import Derived.Test.YtnodnjaajaemcabTableS
namespace Go.Proofs.Ytnodnjaajaemcab
set_option linter.unusedVariables false
open Go.RowKit

theorem bulk_sizes {n : Nat} {rs : List Ru} (h : n + bulk rs ≤ 1048576) : ∀ r ∈ rs, r.1.length ≤ maxLen ∧ r.2.size ≤ maxLen := by
  intro r hr
  have := bulk_mem hr
  unfold maxLen
  omega

end Go.Proofs.Ytnodnjaajaemcab
