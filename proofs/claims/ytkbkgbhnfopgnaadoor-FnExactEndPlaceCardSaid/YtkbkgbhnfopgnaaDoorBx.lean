/-
  A box of any cells, in any later world.
-/
import Derived.Test.YtkbkgbhnfopgnaaDoorMq1
import Derived.OwnWalk
import Derived.Laws.OwnMore
import Derived.Below
import Derived.WalkKit
namespace Go.Proofs.YtkbkgbhnfopgnaaDoor
set_option linter.unusedVariables false
open Go.RowKit

/-- Block b holds the cells l, none of them frozen. -/
def Bx (w : World) (b : Nat) (l : List Value) : Prop := b < w.heap.size ∧ ∀ (i : Nat) (v : Value), l[i]? = some v → w.cell? ⟨b, i, none⟩ = some v ∧ w.frozen? ⟨b, i, none⟩ = false
theorem Bx.new (w : World) (cs : Array Value) (t : TypeId) : Bx (w.alloc (.cells cs t)) w.heap.size cs.toList := by
  refine ⟨by simp, fun i v h => ⟨?_, World.frozen?_alloc_new _ _ _ _⟩⟩
  rw [World.cell?_alloc_at _ _ _ _ rfl]; simpa using h
theorem Bx.block {w w' : World} {b : Nat} {l : List Value} (h : Bx w b l) (hs : b < w'.heap.size) (hh : w'.heap[b]? = w.heap[b]?) : Bx w' b l :=
  ⟨hs, fun i v hv => ⟨(World.cell?_of_block (w := w) (a := ⟨b, i, none⟩) hh).trans (h.2 i v hv).1, (World.frozen?_of_block (w := w) (a := ⟨b, i, none⟩) hh).trans (h.2 i v hv).2⟩⟩
theorem Bx.below {w w' : World} {b C : Nat} {l : List Value} (h : Bx w b l) (hb : Below C w w') (hC : b < C) : Bx w' b l := h.block (Nat.lt_of_lt_of_le h.1 hb.size) (hb.block b hC)
theorem Bx.next {w w' : World} {b : Nat} {l : List Value} (h : Bx w b l) (hb : Below w.heap.size w w') : Bx w' b l := h.below hb h.1
theorem Bx.alloc {w : World} {b : Nat} {l : List Value} (h : Bx w b l) (o : Obj) : Bx (w.alloc o) b l := h.next ((Below.refl w.heap.size w).alloc (Nat.le_refl _) o)
theorem Bx.drew {w : World} {b : Nat} {l : List Value} (h : Bx w b l) : Bx w.drew b l := h
theorem Bx.other {w : World} {b g i : Nat} {l : List Value} {u : Value} (h : Bx w b l) (hne : b ≠ g) : Bx (w.setCell ⟨g, i, none⟩ u) b l :=
  h.block (by simpa using h.1) (Below.heap_setCell _ _ _ _ hne)
theorem Bx.set {w : World} {b : Nat} {l : List Value} (h : Bx w b l) (i : Nat) (u : Value) (hi : i < l.length) : Bx (w.setCell ⟨b, i, none⟩ u) b (l.set i u) := by
  refine ⟨by simpa using h.1, fun k v hv => ⟨?_, ?_⟩⟩
  · by_cases hk : i = k
    · subst hk
      rw [List.getElem?_set_self hi] at hv
      obtain rfl := Option.some.inj hv
      exact World.cell?_setCell_same' _ _ _ (by rw [(h.2 i l[i] (List.getElem?_eq_getElem hi)).1]; rfl)
    · rw [List.getElem?_set_ne hk] at hv
      rw [World.cell?_setCell_other _ _ _ _ (by intro e; injection e; omega)]
      exact (h.2 k v hv).1
  · have : ∃ v', l[k]? = some v' := by
      have hl := (List.getElem?_eq_some_iff.1 hv).1
      rw [List.length_set] at hl
      exact ⟨_, List.getElem?_eq_getElem hl⟩
    obtain ⟨v', hv'⟩ := this
    exact (World.frozen?_setCell _ _ _ _).trans (h.2 k v' hv').2
theorem Bx.grown {w w' : World} {b B : Nat} {l : List Value} (h : Bx w b l) (hg : w.grownBy w' (some B)) (hne : b ≠ B) : Bx w' b l :=
  h.block (Nat.lt_of_lt_of_le h.1 hg.size) (hg.block b h.1 (fun e => hne (by injection e)))
theorem Bx.five {w : World} {b : Nat} {v0 v1 v2 v3 v4 : Value} (h : Bx w b [v0, v1, v2, v3, v4]) :
    w.cell? ⟨b, 0, none⟩ = some v0 ∧ w.cell? ⟨b, 1, none⟩ = some v1 ∧ w.cell? ⟨b, 2, none⟩ = some v2 ∧ w.cell? ⟨b, 3, none⟩ = some v3 ∧ w.cell? ⟨b, 4, none⟩ = some v4 ∧
    w.frozen? ⟨b, 0, none⟩ = false ∧ w.frozen? ⟨b, 1, none⟩ = false ∧ w.frozen? ⟨b, 2, none⟩ = false ∧ w.frozen? ⟨b, 3, none⟩ = false ∧ w.frozen? ⟨b, 4, none⟩ = false :=
  ⟨(h.2 0 v0 rfl).1, (h.2 1 v1 rfl).1, (h.2 2 v2 rfl).1, (h.2 3 v3 rfl).1, (h.2 4 v4 rfl).1, (h.2 0 v0 rfl).2, (h.2 1 v1 rfl).2, (h.2 2 v2 rfl).2, (h.2 3 v3 rfl).2, (h.2 4 v4 rfl).2⟩
/-- What may be done to a box with five cells without touching another. -/
theorem below_alloc11 (w : World) (o : Obj) : Below w.heap.size w (w.alloc o) := (Below.refl _ _).alloc (Nat.le_refl _) o
end Go.Proofs.YtkbkgbhnfopgnaaDoor
