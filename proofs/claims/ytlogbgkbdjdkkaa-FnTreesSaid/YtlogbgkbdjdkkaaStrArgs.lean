/-
  The contracts of the laws' helpers szStringS and toStringS.
-/
import Derived.Test.YtlogbgkbdjdkkaaArgs
import Derived.Test.YtlogbgkbdjdkkaaJoin
import Derived.OwnWalk
import Derived.Laws.OwnMore
import Derived.Deep.AppendLies
namespace Go.Proofs.Ytlogbgkbdjdkkaa
set_option linter.unusedVariables false
open Go.RowKit

theorem info_str0 : (Try.prog.info? 9).map (fun i => (i.zero, i.size, i.bytes)) = some (some (.string ByteArray.empty), 1, 16) := by kernel_rfl
def vals (xs : List ByteArray) : List Value := xs.map Value.string
theorem vals_at (xs : List ByteArray) (j : Nat) (x : ByteArray) (h : xs[j]? = some x) : (vals xs)[j]? = some (.string x) := by simp [vals, h]
/-- What szStringS answers allows the walk to go on only for small slices. -/
def SmallS (n : Nat) (xs : List ByteArray) (r : Int) : Prop := r ≤ 1048576 ∧ (r < 0 ∨ (n ≤ 1048576 ∧ ∀ x ∈ xs, x.size ≤ 1048576))

def SomeR (P : Int → Prop) (w : World) (e : Ending) (w' : World) : Prop := ∃ r : Int, P r ∧ e = .returned (.int .i64 r) ∧ w = w'
/-- The first k texts copied, the rest empty. -/
def copyV (xs : List ByteArray) (n k : Nat) : List Value := vals (xs.take k) ++ List.replicate (n - k) (.string ByteArray.empty)
theorem copyV_zero (xs : List ByteArray) (n : Nat) : (madeCells #[Value.string ByteArray.empty] n).toList = copyV xs n 0 := by
  apply List.ext_getElem?
  intro j
  by_cases h : j < n
  · simp [madeCells, copyV, vals, h, Nat.mod_one]
  · rw [List.getElem?_eq_none (by simp [madeCells]; omega), List.getElem?_eq_none (by simp [copyV, vals]; omega)]
theorem copyV_step (xs : List ByteArray) (n k : Nat) (x : ByteArray) (hn : n = xs.length) (h : xs[k]? = some x) : (copyV xs n k).set k (.string x) = copyV xs n (k + 1) := by
  have hl := (List.getElem?_eq_some_iff.1 h).1
  have he : xs[k] = x := (List.getElem?_eq_some_iff.1 h).2
  unfold copyV vals
  rw [List.set_append_right _ _ (by simp; omega), List.take_succ_eq_append_getElem hl, he, List.map_append, List.append_assoc]
  congr 1
  obtain ⟨d, hd⟩ : ∃ d, n - k = d + 1 := ⟨n - k - 1, by omega⟩
  rw [hd, show n - (k + 1) = d by omega, List.length_map, List.length_take, show k - min k xs.length = 0 by omega, List.replicate_succ, List.set_cons_zero]
  rfl
theorem copyV_all (xs : List ByteArray) (n : Nat) (hn : n = xs.length) : copyV xs n n = vals xs := by
  unfold copyV; rw [List.take_of_length_le (by omega), Nat.sub_self]; simp

end Go.Proofs.Ytlogbgkbdjdkkaa
