/-
  The contract of impl.areWithin: whether all numbers of a list lie within two bounds.
-/
import Derived.Test.YthlajgkelggnkaaGreatDoorIsWord
import Derived.Test.YthlajgkelggnkaaGreatDoorNumAt
namespace Go.Proofs.YthlajgkelggnkaaGreatDoor
set_option linter.unusedVariables false
open Go.RowKit

theorem NumAt.row {w : World} {B n : Nat} {A : Option Addr} {xs : List Int} (h : NumAt w B A n xs) {k : Nat} {x : Int} (hx : xs[k]? = some x) :
    ∃ b o, A = some ⟨b, o, none⟩ ∧ b < B ∧ w.cell? ⟨b, o + k, none⟩ = some (.int .i64 x) := by
  have := (List.getElem?_eq_some_iff.1 hx).1
  obtain ⟨b, o, h1, h2, h3⟩ := h.2 (by have := h.1; omega)
  exact ⟨b, o, h1, h2, h3 k x hx⟩

def allW (lo hi : Int) (xs : List Int) : Bool := xs.all fun x => decide (lo ≤ x) && decide (x ≤ hi)
theorem allW_zero (lo hi : Int) (xs : List Int) : allW lo hi (xs.take 0) = true := rfl
theorem allW_step {lo hi : Int} {xs : List Int} {k : Nat} {x : Int} (h : xs[k]? = some x) (ha : allW lo hi (xs.take k) = true) (h1 : lo ≤ x) (h2 : x ≤ hi) : allW lo hi (xs.take (k + 1)) = true := by
  have hk := (List.getElem?_eq_some_iff.1 h).1
  have hx : xs[k] = x := (List.getElem?_eq_some_iff.1 h).2
  rw [List.take_succ_eq_append_getElem hk, hx]; unfold allW at *; simp only [List.all_append, ha, List.all_cons, List.all_nil, decide_eq_true h1, decide_eq_true h2]; rfl
theorem allW_stop {lo hi : Int} {xs : List Int} {k : Nat} {x : Int} (h : xs[k]? = some x) (hb : x < lo ∨ hi < x) : allW lo hi xs = false := by
  unfold allW; rw [List.all_eq_false]
  refine ⟨x, List.mem_of_getElem? h, ?_⟩
  rw [Bool.and_eq_true, decide_eq_true_eq, decide_eq_true_eq]; omega
theorem allW_end {lo hi : Int} {xs : List Int} {k : Nat} (h : xs.length ≤ k) : allW lo hi (xs.take k) = allW lo hi xs := by rw [List.take_of_length_le h]
theorem allW_mem {lo hi : Int} {xs : List Int} (h : allW lo hi xs = true) {x : Int} (hx : x ∈ xs) : lo ≤ x ∧ x ≤ hi := by
  unfold allW at h; rw [List.all_eq_true] at h
  have := h x hx
  rw [Bool.and_eq_true, decide_eq_true_eq, decide_eq_true_eq] at this; exact this

end Go.Proofs.YthlajgkelggnkaaGreatDoor
