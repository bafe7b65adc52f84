/-
  Rows of numbers of one's own, and the contracts of the laws' eqInt64S, markInt64S and heldInt64S on them.
-/
import Derived.Test.YthlajgkelggnkaaGreatDoorSplit
import Derived.BigQuiet
import Derived.Handy
import Derived.Deep.QuietTactic
import Derived.Laws.OwnMore
namespace Go.Proofs.YthlajgkelggnkaaGreatDoor
set_option linter.unusedVariables false
open Go.RowKit

theorem info_i64 : (Tryz.prog.info? 2).map (fun i => (i.zero, i.size, i.bytes)) = some (some (.int .i64 0), 1, 8) := by kernel_rfl
def intV (xs : List Int) : List Value := xs.map (Value.int .i64)
theorem intV_len (xs : List Int) : (intV xs).length = xs.length := by simp [intV]
theorem intV_at (xs : List Int) (j : Nat) (x : Int) (h : xs[j]? = some x) : (intV xs)[j]? = some (.int .i64 x) := by simp [intV, h]
theorem intV_snoc (xs : List Int) (x : Int) : intV xs ++ [.int .i64 x] = intV (xs ++ [x]) := by simp [intV]
theorem rowBase {w : World} {b b' : Nat} {t : TypeId} {s n : Nat} {v : Value} {xs : List Value} (h : w.ownsRow b t s v n xs) (hb : b' ≤ b) : w.ownsRow b' t s v n xs := by
  refine ⟨h.1, ?_⟩
  rcases h.2 with h2 | ⟨g, cap, cur, h1, h2, h3⟩
  · exact .inl h2
  · exact .inr ⟨g, cap, cur, h1, Nat.le_trans hb h2, h3⟩
theorem bgr {w w' : World} (h : Below w.heap.size w w') (row : Option Nat) : w.grownBy w' row := ⟨h.os, h.tape, h.output, h.size, fun k hk _ => h.block k hk⟩
/-- A row of numbers of one's own. -/
def RowI (w : World) (A : Option Addr) (n c : Nat) (xs : List Int) : Prop := w.ownsRow 0 2 1 (.slice A n c) n (intV xs)
theorem RowI.of {w : World} {A : Option Addr} {n c b : Nat} {xs : List Int} (h : w.ownsRow b 2 1 (.slice A n c) n (intV xs)) : RowI w A n c xs := rowBase h (Nat.zero_le _)
theorem RowI.nil (w : World) : RowI w none 0 0 [] := World.ownsRow_nil w 0 _ 1
theorem RowI.len {w : World} {A : Option Addr} {n c : Nat} {xs : List Int} (h : RowI w A n c xs) : xs.length = n := by have := h.1; rw [intV_len] at this; omega
theorem RowI.grown {w w' : World} {A : Option Addr} {n c : Nat} {xs : List Int} {row : Option Nat} (h : RowI w A n c xs) (hg : w.grownBy w' row) (hne : ∀ x, (Value.slice A n c).ownBlock = some x → row ≠ some x) : RowI w' A n c xs := by
  refine World.ownsRow.kept h hg ?_
  cases hC : (Value.slice A n c).ownBlock with
  | none => exact .inl rfl
  | some x => exact .inr (fun e => hne x hC e.symm)
theorem RowI.below {w w' : World} {A : Option Addr} {n c : Nat} {xs : List Int} (h : RowI w A n c xs) (hb : Below w.heap.size w w') : RowI w' A n c xs := h.grown (bgr hb none) (fun _ _ e => by cases e)
theorem RowI.cells {w : World} {A : Option Addr} {n c : Nat} {xs : List Int} (h : RowI w A n c xs) (hp : 0 < n) : ∃ g, A = some ⟨g, 0, none⟩ ∧ g < w.heap.size ∧ ∀ (j : Nat) x, xs[j]? = some x → w.cell? ⟨g, j, none⟩ = some (.int .i64 x) := by
  obtain ⟨g, cc, hv, _, hgl⟩ := World.ownsRow.form h hp
  obtain ⟨rfl, rfl⟩ : A = some ⟨g, 0, none⟩ ∧ c = cc := by injection hv with h1 h2 h3; exact ⟨h1, h3⟩
  refine ⟨g, rfl, hgl, fun j x hx => ?_⟩
  have hj := (List.getElem?_eq_some_iff.1 hx).1
  have hl := h.len
  exact (World.ownsRow.cellAt h j (by omega)).trans (intV_at _ _ _ hx)

def marksI (k n : Nat) : List Int := (List.range n).map fun (i : Nat) => ((k + i : Nat) : Int)
theorem marksI_len (k n : Nat) : (marksI k n).length = n := by simp [marksI]
theorem marksI_at (k n j : Nat) (h : j < n) : (marksI k n)[j]? = some ((k + j : Nat) : Int) := by simp [marksI, h]
theorem marksI_succ (k j : Nat) : marksI k (j + 1) = marksI k j ++ [((k + j : Nat) : Int)] := by unfold marksI; rw [List.range_succ, List.map_append]; rfl
def markI (k j : Nat) (xs : List Int) : List Int := marksI k j ++ xs.drop j
theorem markI_step (k j : Nat) (xs : List Int) (h : j < xs.length) : (intV (markI k j xs)).set j (.int .i64 ((k + j : Nat) : Int)) = intV (markI k (j + 1) xs) := by
  unfold markI intV
  rw [List.map_append, List.set_append_right _ _ (by rw [List.length_map, marksI_len]; exact Nat.le_refl _), List.length_map, marksI_len, Nat.sub_self, List.drop_eq_getElem_cons h, List.map_cons, List.set_cons_zero, marksI_succ, List.append_assoc, List.map_append]
  rfl

def MarkIPost (A : Option Addr) (n c k : Nat) (w : World) (e : Ending) (w' : World) : Prop :=
  e = .returned (.int .i64 ((k + n : Nat) : Int)) ∧ RowI w' A n c (marksI k n) ∧ w.grownBy w' (Value.slice A n c).ownBlock

end Go.Proofs.YthlajgkelggnkaaGreatDoor
