/-
  The contracts of spec.DrawSpanText and spec.DrawReadSpan.
-/
import Derived.Test.YtdbbolnmcbhflaaDoorPick
import Derived.Test.YtdbbolnmcbhflaaDoorDamage
namespace Go.Proofs.YtdbbolnmcbhflaaDoor
set_option linter.unusedVariables false
open Go.RowKit

theorem CodeIn.below {w w' : World} {A : Option Addr} {len : Nat} (h : CodeIn w A len) (hb : Below w.heap.size w w') : CodeIn w' A len := fun hp => by
  obtain ⟨b, o, hA, hlt, hc⟩ := h hp
  refine ⟨b, o, hA, Nat.lt_of_lt_of_le hlt hb.size, fun j hj => ?_⟩
  obtain ⟨z, h0, h1, h2⟩ := hc j hj
  exact ⟨z, h0, h1, (hb.cell (p := ⟨b, o + j, none⟩) hlt).trans h2⟩
theorem Src.below {w w' : World} {B len : Nat} (h : Src w B len) (hb : Below w.heap.size w w') : Src w' B len := by
  have hlt := h.lt
  obtain ⟨A, cap, a, s, hT, h1, h2, h3, h4, h5⟩ := h
  exact ⟨A, cap, a, s, (hb.block B hlt).trans hT, h1, h2, h3, h4, h5.kept ⟨hb.os, hb.tape, hb.output, hb.size, fun k hk _ => hb.block k hk⟩⟩
theorem bgs {w w' : World} (h : Below w.heap.size w w') (row : Option Nat) : w.grownBy w' row := ⟨h.os, h.tape, h.output, h.size, fun k hk _ => h.block k hk⟩
def DrawnPost (w : World) (e : Ending) (w' : World) : Prop := ∃ x y : Int, -3001 ≤ x ∧ x ≤ 3001 ∧ -3001 ≤ y ∧ y ≤ 3001 ∧ e = .returned (.agg #[.int .i64 x, .int .i64 y]) ∧ Below w.heap.size w w'
def DrawnTextPost (w : World) (e : Ending) (w' : World) : Prop := ∃ t : ByteArray, t.size ≤ 10000 ∧ e = .returned (.string t) ∧ Below w.heap.size w w'

end Go.Proofs.YtdbbolnmcbhflaaDoor
