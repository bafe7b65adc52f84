/-
  The law of IsPlace: its call answers true.
-/
import Derived.Test.YtglmibmjbignbaaGreatDoorMy12
import Derived.Test.YtglmibmjbignbaaGreatDoorMy16
import Derived.Test.YtglmibmjbignbaaGreatDoorMy14
import Derived.Test.YtglmibmjbignbaaGreatDoorMy15
import Derived.Deep.RegionHeld3
namespace Go.Proofs.YtglmibmjbignbaaGreatDoor
section
set_option linter.unusedVariables false
open Go.RowKit

/-- What is kept of two boxes with places through a region that draws its order. -/
def BxR (A0 : World) (b b' : Nat) (v0 v1 v2 v3 v4 u4 : Value) (W : World) : Prop :=
  W.cell? ⟨b, 0, none⟩ = some v0 ∧ W.cell? ⟨b, 1, none⟩ = some v1 ∧ W.cell? ⟨b, 2, none⟩ = some v2 ∧ W.cell? ⟨b, 3, none⟩ = some v3 ∧ W.cell? ⟨b, 4, none⟩ = some v4 ∧
  W.cell? ⟨b', 0, none⟩ = some v0 ∧ W.cell? ⟨b', 1, none⟩ = some v1 ∧ W.cell? ⟨b', 2, none⟩ = some v2 ∧ W.cell? ⟨b', 3, none⟩ = some v3 ∧ W.cell? ⟨b', 4, none⟩ = some u4 ∧
  Below A0.heap.size A0 W ∧ b < A0.heap.size ∧ b' < A0.heap.size
theorem BxR.keep {A0 W W' : World} {b b' : Nat} {v0 v1 v2 v3 v4 u4 : Value} (h : BxR A0 b b' v0 v1 v2 v3 v4 u4 W) (hb : Below W.heap.size W W') : BxR A0 b b' v0 v1 v2 v3 v4 u4 W' := by
  obtain ⟨h0, h1, h2, h3, h4, k0, k1, k2, k3, k4, h5, h6, h7⟩ := h
  have hl : b < W.heap.size := Nat.lt_of_lt_of_le h6 h5.size
  have hl' : b' < W.heap.size := Nat.lt_of_lt_of_le h7 h5.size
  exact ⟨(hb.cell (p := ⟨b, 0, none⟩) hl).trans h0, (hb.cell (p := ⟨b, 1, none⟩) hl).trans h1, (hb.cell (p := ⟨b, 2, none⟩) hl).trans h2, (hb.cell (p := ⟨b, 3, none⟩) hl).trans h3, (hb.cell (p := ⟨b, 4, none⟩) hl).trans h4,
    (hb.cell (p := ⟨b', 0, none⟩) hl').trans k0, (hb.cell (p := ⟨b', 1, none⟩) hl').trans k1, (hb.cell (p := ⟨b', 2, none⟩) hl').trans k2, (hb.cell (p := ⟨b', 3, none⟩) hl').trans k3, (hb.cell (p := ⟨b', 4, none⟩) hl').trans k4, bstep9 h5 h5.size hb, h6, h7⟩
theorem BxR.get {A0 W : World} {b b' : Nat} {v0 v1 v2 v3 v4 u4 : Value} (h : BxR A0 b b' v0 v1 v2 v3 v4 u4 W) : Below A0.heap.size A0 W := h.2.2.2.2.2.2.2.2.2.2.1
theorem BxR.start {A0 : World} {b b' : Nat} {v0 v1 v2 v3 v4 u4 : Value} (h : Bx A0 b [v0, v1, v2, v3, v4]) (h' : Bx A0 b' [v0, v1, v2, v3, u4]) : BxR A0 b b' v0 v1 v2 v3 v4 u4 A0.drew := by
  obtain ⟨h0, h1, h2, h3, h4, _⟩ := h.five
  obtain ⟨k0, k1, k2, k3, k4, _⟩ := h'.five
  exact ⟨h0, h1, h2, h3, h4, k0, k1, k2, k3, k4, (Below.refl _ _).drew, h.1, h'.1⟩
end
section
set_option linter.unusedVariables false
open Go.RowKit

theorem Sp.bx (w : World) (cs : Array Value) (t : TypeId) : Sp w.heap.size (w.alloc (.cells cs t)).heap.size (fun W => Bx W w.heap.size cs.toList) (w.alloc (.cells cs t)) :=
  ⟨Nat.le_refl _, fun W hW => (Bx.new w cs t).block (Nat.lt_of_lt_of_le (by simp) hW.size) (hW.block _ (Nat.le_refl _) (by simp))⟩
/-- How a row of one's own lies. -/
def Form11 (W : World) (A : Option Addr) (n c : Nat) : Prop := (A = none ∧ n = 0 ∧ c = 0) ∨ ∃ g, A = some ⟨g, 0, none⟩ ∧ n ≤ c ∧ g < W.heap.size
theorem form11 {w : World} {lo hi n c : Nat} {A : Option Addr} {es : List PE} (h : OwnP w lo hi A n c es) : Form11 w A n c := by
  rcases h.row.2 with ⟨e, h0⟩ | ⟨g, cap, cur, e, _, h3, h4, _⟩
  · injection e with e1 e2 e3
    exact .inl ⟨e1, h0, e3⟩
  · injection e with e1 e2 e3
    exact .inr ⟨g, e1, by omega, (Array.getElem?_eq_some_iff.1 h3).1⟩
theorem Form11.grow {w w' : World} {n c : Nat} {A : Option Addr} (h : Form11 w A n c) (hs : w.heap.size ≤ w'.heap.size) : Form11 w' A n c := by
  rcases h with h | ⟨g, h1, h2, h3⟩
  · exact .inl h
  · exact .inr ⟨g, h1, h2, by omega⟩
end
end Go.Proofs.YtglmibmjbignbaaGreatDoor
