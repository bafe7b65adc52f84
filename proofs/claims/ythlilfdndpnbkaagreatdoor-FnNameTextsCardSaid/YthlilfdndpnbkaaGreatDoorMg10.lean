/-
  The contracts of spec.l01Is, spec.l01Join, spec.l01List, spec.ListText and impl.areValues on a list of numbers.
-/
import Derived.Test.YthlilfdndpnbkaaGreatDoorDec
import Derived.Test.YthlilfdndpnbkaaGreatDoorMg9
import Derived.Lib.Join
import Derived.Handy
import Derived.Test.YthlilfdndpnbkaaGreatDoorMg1
import Derived.Test.YthlilfdndpnbkaaGreatDoorShelf
import Derived.WalkSmall
import Derived.Lib.LaidTab
namespace Go.Proofs.YthlilfdndpnbkaaGreatDoor
section
set_option linter.unusedVariables false
open Go.RowKit

def okN (n : Int) : Bool := decide (-1000000000000 ≤ n) && decide (n ≤ 1000000000000)
def okAll (xs : List Int) : Bool := xs.all okN
theorem okAll_step (xs : List Int) (k : Nat) (x : Int) (h : xs[k]? = some x) (ha : okAll (xs.take k) = true) (hc : okN x = true) : okAll (xs.take (k + 1)) = true := by
  have hl := (List.getElem?_eq_some_iff.1 h).1
  have he : xs[k] = x := (List.getElem?_eq_some_iff.1 h).2
  rw [List.take_succ_eq_append_getElem hl, he]; unfold okAll at *; simp [List.all_append, ha, hc]
theorem okAll_stop (xs : List Int) (k : Nat) (x : Int) (h : xs[k]? = some x) (hc : okN x = false) : okAll xs = false := by
  unfold okAll; rw [List.all_eq_false]; exact ⟨x, List.mem_of_getElem? h, by simp [hc]⟩
theorem okAll_end (xs : List Int) (k : Nat) (h : xs.length ≤ k) : okAll (xs.take k) = okAll xs := by rw [List.take_of_length_le h]
theorem okN_bd (x : Int) (h : okN x = true) : -1000000000000 ≤ x ∧ x ≤ 1000000000000 := by unfold okN at h; simpa using h
theorem okAll_mem (xs : List Int) (h : okAll xs = true) (x : Int) (hx : x ∈ xs) : -1000000000000 ≤ x ∧ x ≤ 1000000000000 := by
  unfold okAll at h; rw [List.all_eq_true] at h; exact okN_bd x (h x hx)

theorem okAll_W (xs : List Int) : allW (-1000000000000) 1000000000000 xs = okAll xs := rfl
def comL (l : List (List UInt8)) : List UInt8 := Lib.join l [44]
def comB (xs : List ByteArray) : ByteArray := ⟨(Lib.join (xs.map (·.data.toList)) (sepB 44).data.toList).toArray⟩
theorem comL_cons (a b : List UInt8) (l : List (List UInt8)) : comL (a :: b :: l) = a ++ 44 :: comL (b :: l) := by
  simp [comL, Lib.join, List.intercalate, List.intersperse]
theorem comL_one (a : List UInt8) : comL [a] = a := by simp [comL, Lib.join, List.intercalate, List.intersperse]
theorem comL_snoc : ∀ (a : List UInt8) (l : List (List UInt8)) (x : List UInt8), comL ((a :: l) ++ [x]) = comL (a :: l) ++ 44 :: x
  | a, [], x => by rw [List.singleton_append, comL_cons, comL_one, comL_one]
  | a, b :: l, x => by
    rw [List.cons_append, List.cons_append, comL_cons, ← List.cons_append, comL_snoc b l x, comL_cons]; simp
theorem comB_data (xs : List ByteArray) : (comB xs).data.toList = comL (xs.map (·.data.toList)) := by simp [comB, comL, sepB]
theorem comB_one (x : ByteArray) : comB [x] = x := by
  apply ByteArray.ext; apply Array.toList_inj.1
  rw [comB_data]; exact comL_one _
theorem comB_snoc (xs : List ByteArray) (x : ByteArray) (h : xs ≠ []) : comB (xs ++ [x]) = comB xs ++ ⟨#[44]⟩ ++ x := by
  apply ByteArray.ext; apply Array.toList_inj.1
  rw [comB_data]
  cases xs with
  | nil => exact absurd rfl h
  | cons a l =>
    rw [List.map_append, List.map_cons, List.map_singleton, comL_snoc]
    simp [comB_data]
def nums (xs : List Int) : List ByteArray := xs.map numB
theorem nums_step (xs : List Int) (k : Nat) (x : Int) (h : xs[k]? = some x) : nums (xs.take (k + 1)) = nums (xs.take k) ++ [numB x] := by
  have hl := (List.getElem?_eq_some_iff.1 h).1
  have he : xs[k] = x := (List.getElem?_eq_some_iff.1 h).2
  rw [List.take_succ_eq_append_getElem hl, he]; simp [nums]
theorem com_step (xs : List Int) (k : Nat) (x : Int) (hk : 0 < k) (h : xs[k]? = some x) : comB (nums (xs.take (k + 1))) = comB (nums (xs.take k)) ++ ⟨#[44]⟩ ++ numB x := by
  have hl := (List.getElem?_eq_some_iff.1 h).1
  rw [nums_step xs k x h]
  exact comB_snoc _ _ (by intro e; have := congrArg List.length e; simp only [nums, List.length_map, List.length_take, List.length_nil] at this; omega)
theorem com_first (xs : List Int) (x : Int) (h : xs[0]? = some x) : comB (nums (xs.take 1)) = ByteArray.empty ++ numB x := by
  rw [nums_step xs 0 x h, List.take_zero]
  show comB [numB x] = _
  rw [comB_one]
  apply ByteArray.ext; simp

end
section
set_option linter.unusedVariables false
open Go.RowKit

def listB (xs : List Int) : ByteArray := comB (nums xs)
def listV (xs : List Int) : Value := if okAll xs then (if xs.length ≤ 60 then .tuple #[.string (listB xs), .int .i64 0] else .tuple #[.string ByteArray.empty, .int .i64 3]) else .tuple #[.string ByteArray.empty, .int .i64 2]
theorem listV_bad (xs : List Int) (h : okAll xs = false) : listV xs = .tuple #[.string ByteArray.empty, .int .i64 2] := by unfold listV; rw [if_neg (by simp [h])]
theorem listV_long (xs : List Int) (h : okAll xs = true) (hl : 60 < xs.length) : listV xs = .tuple #[.string ByteArray.empty, .int .i64 3] := by unfold listV; rw [if_pos h, if_neg (by omega)]
theorem listV_ok (xs : List Int) (h : okAll xs = true) (hl : xs.length ≤ 60) : listV xs = .tuple #[.string (listB xs), .int .i64 0] := by unfold listV; rw [if_pos h, if_pos hl]

theorem tab_below {P : Program} {B g : Nat} {W W' : World} {name : String} {k : IntKind} {zs : List Int} (h : Below B W W') (hg : P.globalNamed name = some g) (hgB : g < B) (hv : Lib.TabIs P W name k zs) : Lib.TabIs P W' name k zs :=
  var?_below h hg hgB hv
theorem pow_named : Tryz.prog.globalNamed "internal/strconv.uint64pow10" = some 10 := by kernel_rfl
theorem grow_below (w : World) (k : Nat) (os : Array Obj) : Below w.heap.size w (Sort.grow (w.drewN k) os) :=
  ⟨rfl, rfl, rfl, by show w.heap.size ≤ (w.heap ++ os).size; rw [Array.size_append]; omega, fun j hj => by show (w.heap ++ os)[j]? = w.heap[j]?; rw [Array.getElem?_append_left hj]⟩

/-- The first k numbers as texts, the rest empty. -/
def textV (xs : List Int) (n k : Nat) : List Value := strV (nums (xs.take k)) ++ List.replicate (n - k) (.string ByteArray.empty)
theorem textV_zero (xs : List Int) (n : Nat) : (madeCells #[Value.string ByteArray.empty] n).toList = textV xs n 0 := by
  apply List.ext_getElem?
  intro j
  by_cases h : j < n
  · simp [madeCells, textV, strV, nums, h, Nat.mod_one]
  · rw [List.getElem?_eq_none (by simp [madeCells]; omega), List.getElem?_eq_none (by simp [textV, strV, nums]; omega)]
theorem textV_step (xs : List Int) (n k : Nat) (x : Int) (hn : n = xs.length) (h : xs[k]? = some x) : (textV xs n k).set k (.string (numB x)) = textV xs n (k + 1) := by
  have hl := (List.getElem?_eq_some_iff.1 h).1
  unfold textV
  rw [nums_step xs k x h]
  unfold strV nums
  rw [List.set_append_right _ _ (by simp; omega), List.map_append, List.append_assoc]
  congr 1
  obtain ⟨d, hd⟩ : ∃ d, n - k = d + 1 := ⟨n - k - 1, by omega⟩
  rw [hd, show n - (k + 1) = d by omega, List.length_map, List.length_map, List.length_take, show k - min k xs.length = 0 by omega, List.replicate_succ, List.set_cons_zero]
  rfl
theorem textV_all (xs : List Int) (n : Nat) (hn : n = xs.length) : textV xs n n = strV (nums xs) := by
  unfold textV; rw [List.take_of_length_le (by omega), Nat.sub_self]; simp
theorem cFormat (n : Int) (w : World) (h : okN n = true) (htab : Lib.TabIs Tryz.prog w "internal/strconv.uint64pow10" .u64 Lib.pow10Tab) :
    Calls Tryz.prog 44 #[.int .i64 n, .int .i64 10] w fun e w' => e = .returned (.string (numB n)) ∧ Below w.heap.size w w' := by
  have hb := okN_bd n h
  refine (Tryz.strconv_FormatInt_10 n (by omega) (by omega) w htab).mono ?_
  rintro e w' ⟨he, k, os, hw⟩
  exact ⟨he, by rw [hw]; exact grow_below w k os⟩

end
end Go.Proofs.YthlilfdndpnbkaaGreatDoor
