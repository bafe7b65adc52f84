/-
  The contract of impl.LettersInCommon: the last entry of the table of letters in common.
-/
import Derived.Test.YtmbahbnadkmnkaaLcsSpec
import Derived.StillTailTactics
namespace Go.Proofs.Ytmbahbnadkmnkaa
set_option linter.unusedVariables false
open Go.RowKit

/-- The table's 17 times 17 cells, all zero. -/
def zs17 : Array Value := Array.replicate 289 (.int .i64 0)
theorem zs17_size : zs17.size = 289 := by simp [zs17]
theorem zs17_ne : ¬ zs17 = #[] := by intro h; have := zs17_size; rw [h] at this; simp at this
theorem zs17_at (i : Nat) (h : i < 289) : zs17[i]? = some (.int .i64 0) := by simp [zs17, h]
theorem zero17 (w : World) : (zeroValue 72).run Try.prog w = .ok (.agg zs17) w := by kernel_rfl

end Go.Proofs.Ytmbahbnadkmnkaa
