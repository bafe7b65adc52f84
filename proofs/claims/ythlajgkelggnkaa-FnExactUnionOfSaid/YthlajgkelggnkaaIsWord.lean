/-
  The contracts of spec.IsWord and impl.IsWord: each returns whether the text is a word, and nothing in memory changes.
-/
import Derived.Test.YthlajgkelggnkaaChecked
import Derived.Test.YthlajgkelggnkaaPlain
import Derived.LoopTactic
import Derived.Outline
namespace Go.Proofs.Ythlajgkelggnkaa
set_option linter.unusedVariables false
open Go.RowKit

theorem cIn_any (n lo hi : Int) (w : World) :
    Calls Try.prog 60 #[.int .i64 n, .int .i64 lo, .int .i64 hi] w fun e w' => e = .returned (.bool (decide (lo ≤ n) && decide (n ≤ hi))) ∧ w = w' := by
  by_cases h1 : lo ≤ n <;> by_cases h2 : n ≤ hi
  all_goals
    go_enter Try.func60, Try.ntmps60
    go_wp2
    go_ret
    exact ⟨by simp [h1, h2], rfl⟩

end Go.Proofs.Ythlajgkelggnkaa
