/-
  Texts of lists of numbers: what a walk needs ahead of the contracts.
-/
import Derived.Test.YthlajgkelggnkaaGreatDoorNums
import Derived.Test.YthlajgkelggnkaaGreatDoorShelf
import Derived.WalkSmall
import Derived.Lib.LaidTab
namespace Go.Proofs.YthlajgkelggnkaaGreatDoor
set_option linter.unusedVariables false
open Go.RowKit

def listB (xs : List Int) : ByteArray := comB (nums xs)
def listV (xs : List Int) : Value := if okAll xs then (if xs.length ≤ 60 then .tuple #[.string (listB xs), .int .i64 0] else .tuple #[.string ByteArray.empty, .int .i64 3]) else .tuple #[.string ByteArray.empty, .int .i64 2]
theorem listV_bad (xs : List Int) (h : okAll xs = false) : listV xs = .tuple #[.string ByteArray.empty, .int .i64 2] := by unfold listV; rw [if_neg (by simp [h])]
theorem listV_long (xs : List Int) (h : okAll xs = true) (hl : 60 < xs.length) : listV xs = .tuple #[.string ByteArray.empty, .int .i64 3] := by unfold listV; rw [if_pos h, if_neg (by omega)]
theorem listV_ok (xs : List Int) (h : okAll xs = true) (hl : xs.length ≤ 60) : listV xs = .tuple #[.string (listB xs), .int .i64 0] := by unfold listV; rw [if_pos h, if_pos hl]

theorem tab_below {P : Program} {B g : Nat} {W W' : World} {name : String} {k : IntKind} {zs : List Int} (h : Below B W W') (hg : P.globalNamed name = some g) (hgB : g < B) (hv : Lib.TabIs P W name k zs) : Lib.TabIs P W' name k zs :=
  var?_below h hg hgB hv
theorem pow_named : Tryz.prog.globalNamed "internal/strconv.uint64pow10" = some 6 := by kernel_rfl
theorem grow_below (w : World) (k : Nat) (os : Array Obj) : Below w.heap.size w (Sort.grow (w.drewN k) os) :=
  ⟨rfl, rfl, rfl, by show w.heap.size ≤ (w.heap ++ os).size; rw [Array.size_append]; omega, fun j hj => by show (w.heap ++ os)[j]? = w.heap[j]?; rw [Array.getElem?_append_left hj]⟩

/-- The first k numbers as texts, the rest empty. -/
def textV (xs : List Int) (n k : Nat) : List Value := strV (nums (xs.take k)) ++ List.replicate (n - k) (.string ByteArray.empty)
theorem textV_zero (xs : List Int) (n : Nat) : (madeCells #[Value.string ByteArray.empty] n).toList = textV xs n 0 := by
  apply List.ext_getElem?
  intro j
  by_cases h : j < n
  · simp [madeCells, textV, strV, nums, h, Nat.mod_one]
  · rw [List.getElem?_eq_none (by simp [madeCells]; omega), List.getElem?_eq_none (by simp [textV, strV, nums]; omega)]
theorem textV_step (xs : List Int) (n k : Nat) (x : Int) (hn : n = xs.length) (h : xs[k]? = some x) : (textV xs n k).set k (.string (numB x)) = textV xs n (k + 1) := by
  have hl := (List.getElem?_eq_some_iff.1 h).1
  unfold textV
  rw [nums_step xs k x h]
  unfold strV nums
  rw [List.set_append_right _ _ (by simp; omega), List.map_append, List.append_assoc]
  congr 1
  obtain ⟨d, hd⟩ : ∃ d, n - k = d + 1 := ⟨n - k - 1, by omega⟩
  rw [hd, show n - (k + 1) = d by omega, List.length_map, List.length_map, List.length_take, show k - min k xs.length = 0 by omega, List.replicate_succ, List.set_cons_zero]
  rfl
theorem textV_all (xs : List Int) (n : Nat) (hn : n = xs.length) : textV xs n n = strV (nums xs) := by
  unfold textV; rw [List.take_of_length_le (by omega), Nat.sub_self]; simp
theorem cFormat (n : Int) (w : World) (h : okN n = true) (htab : Lib.TabIs Tryz.prog w "internal/strconv.uint64pow10" .u64 Lib.pow10Tab) :
    Calls Tryz.prog 17 #[.int .i64 n, .int .i64 10] w fun e w' => e = .returned (.string (numB n)) ∧ Below w.heap.size w w' := by
  have hb := okN_bd n h
  refine (Tryz.strconv_FormatInt_10 n (by omega) (by omega) w htab).mono ?_
  rintro e w' ⟨he, k, os, hw⟩
  exact ⟨he, by rw [hw]; exact grow_below w k os⟩

end Go.Proofs.YthlajgkelggnkaaGreatDoor
