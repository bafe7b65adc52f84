/-
  The contracts of AreYears of both packages.
-/
import Derived.Test.YtkbkgbhnfopgnaaDoorSpanRow
import Derived.Test.YtkbkgbhnfopgnaaDoorClass
import Derived.IntWalk
import Derived.Deep.RegionWith
namespace Go.Proofs.YtkbkgbhnfopgnaaDoor
set_option linter.unusedVariables false
open Go.RowKit

theorem keep_three {W W' : World} {B b q : Nat} {x y v : Value} (h : W.cell? ⟨B, 0, none⟩ = some x ∧ W.cell? ⟨B, 1, none⟩ = some y ∧ W.cell? ⟨b, q, none⟩ = some v ∧ B < W.heap.size ∧ b < W.heap.size) (hb : Below W.heap.size W W') :
    W'.cell? ⟨B, 0, none⟩ = some x ∧ W'.cell? ⟨B, 1, none⟩ = some y ∧ W'.cell? ⟨b, q, none⟩ = some v ∧ B < W'.heap.size ∧ b < W'.heap.size := by
  obtain ⟨h0, h1, h2, l1, l2⟩ := h
  exact ⟨(hb.cell (p := ⟨B, 0, none⟩) l1).trans h0, (hb.cell (p := ⟨B, 1, none⟩) l1).trans h1, (hb.cell (p := ⟨b, q, none⟩) l2).trans h2, Nat.lt_of_lt_of_le l1 hb.size, Nat.lt_of_lt_of_le l2 hb.size⟩

end Go.Proofs.YtkbkgbhnfopgnaaDoor
