/-
  The contracts of spec.l01Is, spec.l01Join, spec.l01List, spec.ListText and impl.areValues on a list of numbers.
-/
import Derived.Test.YthlajgkelggnkaaGreatDoorDec
import Derived.Test.YthlajgkelggnkaaGreatDoorWithin
import Derived.Lib.Join
import Derived.Handy
import Derived.Test.YthlajgkelggnkaaGreatDoorIsWord
namespace Go.Proofs.YthlajgkelggnkaaGreatDoor
set_option linter.unusedVariables false
open Go.RowKit

def okN (n : Int) : Bool := decide (-1000000000000 ≤ n) && decide (n ≤ 1000000000000)
def okAll (xs : List Int) : Bool := xs.all okN
theorem okAll_step (xs : List Int) (k : Nat) (x : Int) (h : xs[k]? = some x) (ha : okAll (xs.take k) = true) (hc : okN x = true) : okAll (xs.take (k + 1)) = true := by
  have hl := (List.getElem?_eq_some_iff.1 h).1
  have he : xs[k] = x := (List.getElem?_eq_some_iff.1 h).2
  rw [List.take_succ_eq_append_getElem hl, he]; unfold okAll at *; simp [List.all_append, ha, hc]
theorem okAll_stop (xs : List Int) (k : Nat) (x : Int) (h : xs[k]? = some x) (hc : okN x = false) : okAll xs = false := by
  unfold okAll; rw [List.all_eq_false]; exact ⟨x, List.mem_of_getElem? h, by simp [hc]⟩
theorem okAll_end (xs : List Int) (k : Nat) (h : xs.length ≤ k) : okAll (xs.take k) = okAll xs := by rw [List.take_of_length_le h]
theorem okN_bd (x : Int) (h : okN x = true) : -1000000000000 ≤ x ∧ x ≤ 1000000000000 := by unfold okN at h; simpa using h
theorem okAll_mem (xs : List Int) (h : okAll xs = true) (x : Int) (hx : x ∈ xs) : -1000000000000 ≤ x ∧ x ≤ 1000000000000 := by
  unfold okAll at h; rw [List.all_eq_true] at h; exact okN_bd x (h x hx)

theorem okAll_W (xs : List Int) : allW (-1000000000000) 1000000000000 xs = okAll xs := rfl
def comL (l : List (List UInt8)) : List UInt8 := Lib.join l [44]
def comB (xs : List ByteArray) : ByteArray := ⟨(Lib.join (xs.map (·.data.toList)) (sepB 44).data.toList).toArray⟩
theorem comL_cons (a b : List UInt8) (l : List (List UInt8)) : comL (a :: b :: l) = a ++ 44 :: comL (b :: l) := by
  simp [comL, Lib.join, List.intercalate, List.intersperse]
theorem comL_one (a : List UInt8) : comL [a] = a := by simp [comL, Lib.join, List.intercalate, List.intersperse]
theorem comL_snoc : ∀ (a : List UInt8) (l : List (List UInt8)) (x : List UInt8), comL ((a :: l) ++ [x]) = comL (a :: l) ++ 44 :: x
  | a, [], x => by rw [List.singleton_append, comL_cons, comL_one, comL_one]
  | a, b :: l, x => by
    rw [List.cons_append, List.cons_append, comL_cons, ← List.cons_append, comL_snoc b l x, comL_cons]; simp
theorem comB_data (xs : List ByteArray) : (comB xs).data.toList = comL (xs.map (·.data.toList)) := by simp [comB, comL, sepB]
theorem comB_one (x : ByteArray) : comB [x] = x := by
  apply ByteArray.ext; apply Array.toList_inj.1
  rw [comB_data]; exact comL_one _
theorem comB_snoc (xs : List ByteArray) (x : ByteArray) (h : xs ≠ []) : comB (xs ++ [x]) = comB xs ++ ⟨#[44]⟩ ++ x := by
  apply ByteArray.ext; apply Array.toList_inj.1
  rw [comB_data]
  cases xs with
  | nil => exact absurd rfl h
  | cons a l =>
    rw [List.map_append, List.map_cons, List.map_singleton, comL_snoc]
    simp [comB_data]
def nums (xs : List Int) : List ByteArray := xs.map numB
theorem nums_step (xs : List Int) (k : Nat) (x : Int) (h : xs[k]? = some x) : nums (xs.take (k + 1)) = nums (xs.take k) ++ [numB x] := by
  have hl := (List.getElem?_eq_some_iff.1 h).1
  have he : xs[k] = x := (List.getElem?_eq_some_iff.1 h).2
  rw [List.take_succ_eq_append_getElem hl, he]; simp [nums]
theorem com_step (xs : List Int) (k : Nat) (x : Int) (hk : 0 < k) (h : xs[k]? = some x) : comB (nums (xs.take (k + 1))) = comB (nums (xs.take k)) ++ ⟨#[44]⟩ ++ numB x := by
  have hl := (List.getElem?_eq_some_iff.1 h).1
  rw [nums_step xs k x h]
  exact comB_snoc _ _ (by intro e; have := congrArg List.length e; simp only [nums, List.length_map, List.length_take, List.length_nil] at this; omega)
theorem com_first (xs : List Int) (x : Int) (h : xs[0]? = some x) : comB (nums (xs.take 1)) = ByteArray.empty ++ numB x := by
  rw [nums_step xs 0 x h, List.take_zero]
  show comB [numB x] = _
  rw [comB_one]
  apply ByteArray.ext; simp

end Go.Proofs.YthlajgkelggnkaaGreatDoor
