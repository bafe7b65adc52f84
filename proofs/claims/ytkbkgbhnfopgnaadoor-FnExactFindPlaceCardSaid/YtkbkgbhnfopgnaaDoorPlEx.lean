/-
  What the laws of chapter 11 are told of rows of places.
-/
import Derived.Test.YtkbkgbhnfopgnaaDoorPlHeld
namespace Go.Proofs.YtkbkgbhnfopgnaaDoor
set_option linter.unusedVariables false
open Go.RowKit

theorem own_pl2 {w : World} {lo hi n c : Nat} {A : Option Addr} {es : List PE} {ps : List Pl} (h : OwnP w lo hi A n c es) (he : plsOf es = ps) : PlAt w w.heap.size A n ps := he ▸ own_pl h
/-- A row of places of one's own and a code. -/
def OutPl (zs : List Pl) (code : Int) (w : World) (e : Ending) (w' : World) : Prop :=
  ∃ A n c es, e = .returned (.tuple #[.slice A n c, .int .i64 code]) ∧ plsOf es = zs ∧ OwnP w' w.heap.size w'.heap.size A n c es ∧ Below w.heap.size w w'
theorem reg_wide {ps : List Pl} (h : regB ps = true) : ∀ es, plsOf es = ps → wideL es ≤ 1048576 := by
  intro es he
  have hl : es.length ≤ 10 := by have := (reg_of h).1; rw [← he, plsOf_len] at this; exact this
  have hm : ∀ e ∈ es, wideP e ≤ 64 := fun e hm => by
    have h1 := (pl_parts (reg_mem h (p := e.p) (by rw [← he]; exact List.mem_map_of_mem hm))).2.2.2.2.1
    have h2 := (names_of h1).1
    unfold wideP; omega
  have key : ∀ (l : List PE), (∀ e ∈ l, wideP e ≤ 64) → wideL l ≤ 64 * l.length := by
    intro l
    induction l with
    | nil => intro _; simp [wideL]
    | cons x l ih =>
      intro hx
      have h1 : wideL (x :: l) = wideP x + wideL l := by simp [wideL]
      have h2 := hx x (by simp)
      have h3 := ih (fun e he => hx e (List.mem_cons_of_mem _ he))
      rw [h1, List.length_cons]; omega
  have := key es hm
  omega
theorem nil_wide : ∀ es, plsOf es = [] → wideL es ≤ 1048576 := by
  intro es he
  obtain rfl : es = [] := by unfold plsOf at he; simpa using he
  simp [wideL]
end Go.Proofs.YtkbkgbhnfopgnaaDoor
