/-
  The contracts of impl.areWords (at a slice whose cells hold given texts).
-/
import Derived.Test.YtlogbgkbdjdkkaaIsWord
import Derived.Laws.NewBlocks
import Derived.BigQuiet
import Derived.Deep.QuietTactic
namespace Go.Proofs.Ytlogbgkbdjdkkaa
set_option linter.unusedVariables false
open Go.RowKit

def wordsB (xs : List ByteArray) : Bool := xs.all wordB
theorem wordsB_two (a b : ByteArray) : wordsB [a, b] = (wordB a && wordB b) := by simp [wordsB]
theorem wordsB_take_zero (xs : List ByteArray) : wordsB (xs.take 0) = true := rfl
theorem wordsB_step (xs : List ByteArray) (k : Nat) (x : ByteArray) (h : xs[k]? = some x) (ha : wordsB (xs.take k) = true) (hc : wordB x = true) : wordsB (xs.take (k + 1)) = true := by
  have hk : k < xs.length := (List.getElem?_eq_some_iff.1 h).1
  have hx : xs[k] = x := (List.getElem?_eq_some_iff.1 h).2
  rw [List.take_succ_eq_append_getElem hk]; unfold wordsB at *; simp [List.all_append, ha, hx, hc]
theorem wordsB_stop (xs : List ByteArray) (k : Nat) (x : ByteArray) (h : xs[k]? = some x) (hc : wordB x = false) : wordsB xs = false := by
  unfold wordsB; rw [List.all_eq_false]
  exact ⟨x, List.mem_of_getElem? h, by simp [hc]⟩
theorem wordsB_end (xs : List ByteArray) (k : Nat) (h : xs.length ≤ k) : wordsB (xs.take k) = wordsB xs := by
  rw [List.take_of_length_le h]

/-- The code of two words. -/
def twoE (a b : ByteArray) : Bool := wordB a && wordB b
theorem cells_two (w : World) (a b : ByteArray) (B : Nat) (hc : ∀ i v, (#[.string a, .string b] : Array Value)[i]? = some v → w.cell? ⟨B, i, none⟩ = some v) :
    ∀ (j : Nat) x, [a, b][j]? = some x → w.cell? ⟨B, 0 + j, none⟩ = some (.string x) := by
  intro j x h
  rw [Nat.zero_add]
  match j, h with
  | 0, h => obtain rfl : a = x := by simpa using h
            exact hc 0 _ rfl
  | 1, h => obtain rfl : b = x := by simpa using h
            exact hc 1 _ rfl

end Go.Proofs.Ytlogbgkbdjdkkaa
