/-
  The contract of spec.l01Words: texts joined by blanks. 'joinB xs' is that text.
-/
import Derived.Test.YtkbkgbhnfopgnaaDoorMq2
import Derived.Test.YtkbkgbhnfopgnaaDoorSplitPlain
import Derived.Handy
import Derived.Lib.Join
import Derived.Test.YtkbkgbhnfopgnaaDoorMq1
import Derived.OwnWalk
import Derived.Laws.OwnMore
import Derived.Deep.AppendLies
namespace Go.Proofs.YtkbkgbhnfopgnaaDoor
section
set_option linter.unusedVariables false
open Go.RowKit

def joinL (l : List (List UInt8)) : List UInt8 := Lib.join l [32]
def joinB (xs : List ByteArray) : ByteArray := ⟨(Lib.join (xs.map (·.data.toList)) (sepB 32).data.toList).toArray⟩
theorem joinL_cons (a b : List UInt8) (l : List (List UInt8)) : joinL (a :: b :: l) = a ++ 32 :: joinL (b :: l) := by
  simp [joinL, Lib.join, List.intercalate, List.intersperse]
theorem joinL_one (a : List UInt8) : joinL [a] = a := by simp [joinL, Lib.join, List.intercalate, List.intersperse]
theorem joinL_snoc : ∀ (a : List UInt8) (l : List (List UInt8)) (x : List UInt8), joinL ((a :: l) ++ [x]) = joinL (a :: l) ++ 32 :: x
  | a, [], x => by rw [List.singleton_append, joinL_cons, joinL_one, joinL_one]
  | a, b :: l, x => by
    rw [List.cons_append, List.cons_append, joinL_cons, ← List.cons_append, joinL_snoc b l x, joinL_cons]; simp
theorem joinB_data (xs : List ByteArray) : (joinB xs).data.toList = joinL (xs.map (·.data.toList)) := by simp [joinB, joinL, sepB]
theorem joinB_one (x : ByteArray) : joinB [x] = x := by
  apply ByteArray.ext; apply Array.toList_inj.1
  rw [joinB_data]; exact joinL_one _
theorem joinB_snoc (xs : List ByteArray) (x : ByteArray) (h : xs ≠ []) : joinB (xs ++ [x]) = joinB xs ++ ⟨#[32]⟩ ++ x := by
  apply ByteArray.ext; apply Array.toList_inj.1
  rw [joinB_data]
  cases xs with
  | nil => exact absurd rfl h
  | cons a l =>
    rw [List.map_append, List.map_cons, List.map_singleton, joinL_snoc]
    simp [joinB_data]
theorem joinB_step (xs : List ByteArray) (k : Nat) (x : ByteArray) (hk : 0 < k) (h : xs[k]? = some x) : joinB (xs.take (k + 1)) = joinB (xs.take k) ++ ⟨#[32]⟩ ++ x := by
  have hl := (List.getElem?_eq_some_iff.1 h).1
  have hx : xs[k] = x := (List.getElem?_eq_some_iff.1 h).2
  rw [List.take_succ_eq_append_getElem hl, hx]
  exact joinB_snoc _ _ (by intro e; have := congrArg List.length e; rw [List.length_take, List.length_nil] at this; omega)
theorem joinB_first (xs : List ByteArray) (x : ByteArray) (h : xs[0]? = some x) : joinB (xs.take 1) = ByteArray.empty ++ x := by
  have hl := (List.getElem?_eq_some_iff.1 h).1
  have hx : xs[0] = x := (List.getElem?_eq_some_iff.1 h).2
  rw [List.take_succ_eq_append_getElem hl, hx, List.take_zero, List.nil_append, joinB_one]
  apply ByteArray.ext; simp

theorem join_len : ∀ (l : List (List UInt8)), (∀ y ∈ l, y.length ≤ 64) → (joinL l).length ≤ l.length * 65
  | [], _ => by simp [joinL, Lib.join, List.intercalate, List.intersperse]
  | [a], h => by rw [joinL_one]; have := h a (by simp); simp; omega
  | a :: b :: l, h => by
    rw [joinL_cons, List.length_append, List.length_cons]
    have h1 := h a (by simp)
    have h2 := join_len (b :: l) (fun y hy => h y (List.mem_cons_of_mem _ hy))
    simp only [List.length_cons] at h2 ⊢
    omega
theorem join_small (xs : List ByteArray) (h : ∀ y ∈ xs, y.size ≤ 16) (hn : xs.length ≤ 8) : (Lib.join (xs.map (·.data.toList)) (sepB 32).data.toList).length ≤ 140737488355328 := by
  have h1 := join_len (xs.map (·.data.toList)) (by
    intro y hy
    rw [List.mem_map] at hy
    obtain ⟨z, hz, rfl⟩ := hy
    have h2 := h z hz
    have h3 := size_list z
    omega)
  rw [List.length_map] at h1
  have h2 : (Lib.join (xs.map (·.data.toList)) (sepB 32).data.toList) = joinL (xs.map (·.data.toList)) := rfl
  rw [h2]; omega

end
section
set_option linter.unusedVariables false
open Go.RowKit

theorem info_str0 : (Tryd.prog.info? 9).map (fun i => (i.zero, i.size, i.bytes)) = some (some (.string ByteArray.empty), 1, 16) := by kernel_rfl
def vals (xs : List ByteArray) : List Value := xs.map Value.string
theorem vals_at (xs : List ByteArray) (j : Nat) (x : ByteArray) (h : xs[j]? = some x) : (vals xs)[j]? = some (.string x) := by simp [vals, h]
/-- What szStringS answers allows the walk to go on only for small slices. -/
def SmallS (n : Nat) (xs : List ByteArray) (r : Int) : Prop := r ≤ 1048576 ∧ (r < 0 ∨ (n ≤ 1048576 ∧ ∀ x ∈ xs, x.size ≤ 1048576))

def SomeR (P : Int → Prop) (w : World) (e : Ending) (w' : World) : Prop := ∃ r : Int, P r ∧ e = .returned (.int .i64 r) ∧ w = w'
/-- The first k texts copied, the rest empty. -/
def copyV (xs : List ByteArray) (n k : Nat) : List Value := vals (xs.take k) ++ List.replicate (n - k) (.string ByteArray.empty)
theorem copyV_zero (xs : List ByteArray) (n : Nat) : (madeCells #[Value.string ByteArray.empty] n).toList = copyV xs n 0 := by
  apply List.ext_getElem?
  intro j
  by_cases h : j < n
  · simp [madeCells, copyV, vals, h, Nat.mod_one]
  · rw [List.getElem?_eq_none (by simp [madeCells]; omega), List.getElem?_eq_none (by simp [copyV, vals]; omega)]
theorem copyV_step (xs : List ByteArray) (n k : Nat) (x : ByteArray) (hn : n = xs.length) (h : xs[k]? = some x) : (copyV xs n k).set k (.string x) = copyV xs n (k + 1) := by
  have hl := (List.getElem?_eq_some_iff.1 h).1
  have he : xs[k] = x := (List.getElem?_eq_some_iff.1 h).2
  unfold copyV vals
  rw [List.set_append_right _ _ (by simp; omega), List.take_succ_eq_append_getElem hl, he, List.map_append, List.append_assoc]
  congr 1
  obtain ⟨d, hd⟩ : ∃ d, n - k = d + 1 := ⟨n - k - 1, by omega⟩
  rw [hd, show n - (k + 1) = d by omega, List.length_map, List.length_take, show k - min k xs.length = 0 by omega, List.replicate_succ, List.set_cons_zero]
  rfl
theorem copyV_all (xs : List ByteArray) (n : Nat) (hn : n = xs.length) : copyV xs n n = vals xs := by
  unfold copyV; rw [List.take_of_length_le (by omega), Nat.sub_self]; simp

end
section
set_option linter.unusedVariables false
open Go.RowKit

set_option maxHeartbeats 1000000 in
set_option maxRecDepth 100000 in
/-- Two slices with the same texts are equal. -/
theorem cEqS (g cap g' cap' n : Nat) (xs : List ByteArray) (w : World) (hn : n = xs.length) (hbig : n ≤ 1099511627776)
    (h1 : ∀ j x, xs[j]? = some x → w.cell? ⟨g, j, none⟩ = some (.string x)) (h2 : ∀ j x, xs[j]? = some x → w.cell? ⟨g', j, none⟩ = some (.string x)) :
    Calls Tryd.prog 23 #[.slice (some ⟨g, 0, none⟩) n cap, .slice (some ⟨g', 0, none⟩) n cap'] w fun e w' => e = .returned (.bool true) ∧ ∃ m, w' = w.drewN m := by
  have HN := Lib.hid hn
  have H1 := Lib.hid h1
  have H2 := Lib.hid h2
  clear hn h1 h2
  go_enter Tryd.func23, Tryd.ntmps23
  go_wp2
  go_loopw [5] (fun i wr => ∃ j m : Nat, j ≤ n ∧ i = .int .i64 j ∧ wr = w.drewN m) (fun i _ => n - (intOf i).toNat)
  case atStart => exact ⟨0, 0, Nat.zero_le _, rfl, rfl⟩
  case round =>
    obtain ⟨j, m, hj, rfl, rfl⟩ := hrel
    by_cases hlt : j < n
    · obtain ⟨x, hx⟩ : ∃ x, xs[j]? = some x := ⟨xs[j]'(by have := HN.out; omega), List.getElem?_eq_getElem _⟩
      have c1 : w.cell? ⟨g, j, none⟩ = some (.string x) := H1.out j x hx
      have c2 : w.cell? ⟨g', j, none⟩ = some (.string x) := H2.out j x hx
      clear hx
      have e1 : (0 : Int) ≤ (j : Int) := Int.natCast_nonneg _
      have e2 : (j : Int) < (n : Int) := by omega
      go_wp2
      go_quiet (fail)
      go_wp2
      go_roundw
      case rel => exact ⟨j + 1, _, by omega, by go_num, rfl⟩
      case measure => simp [intOf]; omega
    · go_wp2
      go_ret
      exact ⟨rfl, m, rfl⟩
/-- Two slices of length 0 are equal. -/
theorem cEqS_none (A A' : Option Addr) (cap cap' : Nat) (w : World) :
    Calls Tryd.prog 23 #[.slice A 0 cap, .slice A' 0 cap'] w fun e w' => e = .returned (.bool true) ∧ w = w' := by
  go_enter Tryd.func23, Tryd.ntmps23
  go_wp2
  refine wp_loop_rounds 1 ?_
  rw [rounds_succ]
  go_wp2
  go_ret
  exact ⟨rfl, rfl⟩
end
end Go.Proofs.YtkbkgbhnfopgnaaDoor
