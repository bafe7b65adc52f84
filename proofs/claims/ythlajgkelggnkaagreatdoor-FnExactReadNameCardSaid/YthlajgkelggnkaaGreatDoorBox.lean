/-
  Boxes of spans: what a callee that makes memory leaves of them.
-/
import Derived.Test.YthlajgkelggnkaaGreatDoorIsWord
import Derived.BigQuiet
import Derived.Deep.QuietTactic
import Derived.Handy
import Derived.Laws.Rows
namespace Go.Proofs.YthlajgkelggnkaaGreatDoor
set_option linter.unusedVariables false
open Go.RowKit

theorem bcell {W w1 : World} (hb : Below W.heap.size W w1) : (∀ b o, b < W.heap.size → w1.cell? ⟨b, o, none⟩ = W.cell? ⟨b, o, none⟩) ∧ (∀ b o, b < W.heap.size → w1.frozen? ⟨b, o, none⟩ = W.frozen? ⟨b, o, none⟩) :=
  ⟨fun b o h => hb.cell (p := ⟨b, o, none⟩) h, fun b o h => hb.frozen (p := ⟨b, o, none⟩) h⟩
theorem box_cell (w : World) (x y : Int) (t : TypeId) : (w.alloc (.cells #[.int .i64 x, .int .i64 y] t)).cell? ⟨w.heap.size, 0, none⟩ = some (.int .i64 x) ∧ (w.alloc (.cells #[.int .i64 x, .int .i64 y] t)).cell? ⟨w.heap.size, 1, none⟩ = some (.int .i64 y) :=
  ⟨by rw [World.cell?_alloc_at _ _ _ _ rfl]; rfl, by rw [World.cell?_alloc_at _ _ _ _ rfl]; rfl⟩

def BoxAt (w : World) (B : Nat) (x y : Int) : Prop := B < w.heap.size ∧ w.cell? ⟨B, 0, none⟩ = some (.int .i64 x) ∧ w.cell? ⟨B, 1, none⟩ = some (.int .i64 y)
theorem BoxAt.below {w w' : World} {B : Nat} {x y : Int} (h : BoxAt w B x y) (hb : Below w.heap.size w w') : BoxAt w' B x y :=
  ⟨Nat.lt_of_lt_of_le h.1 hb.size, (hb.cell (p := ⟨B, 0, none⟩) h.1).trans h.2.1, (hb.cell (p := ⟨B, 1, none⟩) h.1).trans h.2.2⟩
theorem BoxAt.new (w : World) (x y : Int) (t : TypeId) : BoxAt (w.alloc (.cells #[.int .i64 x, .int .i64 y] t)) w.heap.size x y := ⟨by simp, (box_cell w x y t).1, (box_cell w x y t).2⟩
/-- A box that may be written. -/
def ResAt (w : World) (B : Nat) (x y : Int) : Prop := BoxAt w B x y ∧ w.frozen? ⟨B, 0, none⟩ = false ∧ w.frozen? ⟨B, 1, none⟩ = false
theorem ResAt.below {w w' : World} {B : Nat} {x y : Int} (h : ResAt w B x y) (hb : Below w.heap.size w w') : ResAt w' B x y :=
  ⟨h.1.below hb, (hb.frozen (p := ⟨B, 0, none⟩) h.1.1).trans h.2.1, (hb.frozen (p := ⟨B, 1, none⟩) h.1.1).trans h.2.2⟩
theorem ResAt.new (w : World) (x y : Int) (t : TypeId) : ResAt (w.alloc (.cells #[.int .i64 x, .int .i64 y] t)) w.heap.size x y :=
  ⟨BoxAt.new w x y t, by unfold World.frozen?; rw [heap_alloc_new]; simp, by unfold World.frozen?; rw [heap_alloc_new]; simp⟩
theorem below_alloc (w : World) (o : Obj) : Below w.heap.size w (w.alloc o) := (Below.refl _ _).alloc (Nat.le_refl _) _
theorem BoxAt.alloc {w : World} {B : Nat} {x y : Int} (h : BoxAt w B x y) (o : Obj) : BoxAt (w.alloc o) B x y := h.below (below_alloc w o)
theorem below_set2 {B : Nat} {w w' : World} (h : Below B w w') {g : Nat} (hg : B ≤ g) (x y : Value) : Below B w ((w'.setCell ⟨g, 0, none⟩ x).setCell ⟨g, 1, none⟩ y) := (h.setCell hg x).setCell hg y
end Go.Proofs.YthlajgkelggnkaaGreatDoor
