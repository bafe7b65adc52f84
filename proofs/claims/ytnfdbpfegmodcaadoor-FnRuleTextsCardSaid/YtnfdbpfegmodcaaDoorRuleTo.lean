/-
  The contracts of the laws' toRule and eqRule.
-/
import Derived.Test.YtnfdbpfegmodcaaDoorRuleArgs
import Derived.BigQuiet
import Derived.Deep.QuietTactic
namespace Go.Proofs.YtnfdbpfegmodcaaDoor
set_option linter.unusedVariables false
open Go.RowKit

theorem ownsRow_block {w w' : World} {base g n c s : Nat} {e : TypeId} {xs : List Value} (h : w.ownsRow base e s (.slice (some ⟨g, 0, none⟩) n c) n xs) (hb : w'.heap[g]? = w.heap[g]?) : w'.ownsRow base e s (.slice (some ⟨g, 0, none⟩) n c) n xs := by
  refine ⟨h.1, ?_⟩
  rcases h.2 with h2 | ⟨g', cap, cur, h1, h2, h3, h4⟩
  · exact .inl h2
  · obtain rfl : g = g' := by injection h1 with h1; injection h1 with h1; injection h1
    exact .inr ⟨g, cap, cur, h1, h2, hb.trans h3, h4⟩
theorem numAt_own {w : World} {b g n c : Nat} {xs : List Int} (h : w.ownsRow b 2 1 (.slice (some ⟨g, 0, none⟩) n c) n (intV xs)) : NumAt w w.heap.size (some ⟨g, 0, none⟩) n xs := by
  have hl : n = xs.length := by have := h.1; rw [intV_len] at this; omega
  refine ⟨hl, fun _ => ⟨g, 0, rfl, (h.lt _ rfl).2, fun j x hx => ?_⟩⟩
  rw [Nat.zero_add]
  exact (h.cellAt j (by have := (List.getElem?_eq_some_iff.1 hx).1; omega)).trans (intV_at _ _ _ hx)
theorem four_sets (w : World) (a b c d : Addr) (u v x y : Value) (g : Nat) (ha : g ≠ a.block) (hb : g ≠ b.block) (hc : g ≠ c.block) (hd : g ≠ d.block) :
    ((((w.setCell a u).setCell b v).setCell c x).setCell d y).heap[g]? = w.heap[g]? := by
  rw [Below.heap_setCell _ _ _ _ hd, Below.heap_setCell _ _ _ _ hc, Below.heap_setCell _ _ _ _ hb, Below.heap_setCell _ _ _ _ ha]

/-- A rule of one's own comes back: its numbers in a new block, its text as it was. -/
def ToPost (n : Nat) (r : Ru) (w : World) (e : Ending) (w' : World) : Prop :=
  ∃ g, e = .returned (.agg #[.slice (some ⟨g, 0, none⟩) n n, .string r.2]) ∧ w.heap.size ≤ g ∧ g < w'.heap.size ∧ NumAt w' w'.heap.size (some ⟨g, 0, none⟩) n r.1 ∧
    (0 < n → w'.ownsRow g 2 1 (.slice (some ⟨g, 0, none⟩) n n) n (intV r.1)) ∧ Below w.heap.size w w'

/-- What a drawn region with two pairs of cells keeps. -/
def TwoR (A0 : World) (b1 : Nat) (u1 v1 : Value) (b2 : Nat) (u2 v2 : Value) (W : World) : Prop :=
  W.cell? ⟨b1, 0, none⟩ = some u1 ∧ W.cell? ⟨b1, 1, none⟩ = some v1 ∧ W.cell? ⟨b2, 0, none⟩ = some u2 ∧ W.cell? ⟨b2, 1, none⟩ = some v2 ∧ b1 < W.heap.size ∧ b2 < W.heap.size ∧ Below A0.heap.size A0 W
theorem TwoR.keep {A0 W W' : World} {b1 b2 : Nat} {u1 v1 u2 v2 : Value} (h : TwoR A0 b1 u1 v1 b2 u2 v2 W) (hb : Below W.heap.size W W') : TwoR A0 b1 u1 v1 b2 u2 v2 W' := by
  obtain ⟨h1, h2, h3, h4, h5, h6, h7⟩ := h
  exact ⟨(hb.cell (p := ⟨b1, 0, none⟩) h5).trans h1, (hb.cell (p := ⟨b1, 1, none⟩) h5).trans h2, (hb.cell (p := ⟨b2, 0, none⟩) h6).trans h3, (hb.cell (p := ⟨b2, 1, none⟩) h6).trans h4, Nat.lt_of_lt_of_le h5 hb.size, Nat.lt_of_lt_of_le h6 hb.size, h7.trans (hb.mono h7.size)⟩
theorem TwoR.start {w : World} {b1 b2 : Nat} {u1 v1 u2 v2 : Value} (h1 : PairAt w b1 u1 v1) (h2 : PairAt w b2 u2 v2) : TwoR w b1 u1 v1 b2 u2 v2 w.drew :=
  ⟨h1.2.1, h1.2.2, h2.2.1, h2.2.2, h1.1, h2.1, (Below.refl _ _).drew⟩
end Go.Proofs.YtnfdbpfegmodcaaDoor
