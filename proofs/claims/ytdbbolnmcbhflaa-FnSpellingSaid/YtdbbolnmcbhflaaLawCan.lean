/-
  The law of CanWrite: its call answers true.
-/
import Derived.Test.YtdbbolnmcbhflaaLawSpell
namespace Go.Proofs.Ytdbbolnmcbhflaa
set_option linter.unusedVariables false
open Go.RowKit

theorem canV_form (xs : List ByteArray) (s : ByteArray) : ∃ b c, canV xs s = .tuple #[.bool b, .int .i64 c] := by
  unfold canV; split
  · exact ⟨_, _, rfl⟩
  · exact ⟨_, _, rfl⟩

end Go.Proofs.Ytdbbolnmcbhflaa
