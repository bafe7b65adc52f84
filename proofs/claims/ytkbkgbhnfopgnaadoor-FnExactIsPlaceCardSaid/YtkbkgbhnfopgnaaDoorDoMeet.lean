/-
  The contracts of DoMeet and MeetOf of both packages.
-/
import Derived.Test.YtkbkgbhnfopgnaaDoorMeet
namespace Go.Proofs.YtkbkgbhnfopgnaaDoor
set_option linter.unusedVariables false
open Go.RowKit

theorem bcell {W w1 : World} (hb : Below W.heap.size W w1) : (∀ b o, b < W.heap.size → w1.cell? ⟨b, o, none⟩ = W.cell? ⟨b, o, none⟩) ∧ (∀ b o, b < W.heap.size → w1.frozen? ⟨b, o, none⟩ = W.frozen? ⟨b, o, none⟩) :=
  ⟨fun b o h => hb.cell (p := ⟨b, o, none⟩) h, fun b o h => hb.frozen (p := ⟨b, o, none⟩) h⟩
theorem box_cell (w : World) (x y : Int) (t : TypeId) : (w.alloc (.cells #[.int .i64 x, .int .i64 y] t)).cell? ⟨w.heap.size, 0, none⟩ = some (.int .i64 x) ∧ (w.alloc (.cells #[.int .i64 x, .int .i64 y] t)).cell? ⟨w.heap.size, 1, none⟩ = some (.int .i64 y) :=
  ⟨by rw [World.cell?_alloc_at _ _ _ _ rfl]; rfl, by rw [World.cell?_alloc_at _ _ _ _ rfl]; rfl⟩

/-- The world with two spans in boxes. -/
def boxes (w : World) (x y u v : Int) : World := (w.alloc (.cells #[.int .i64 x, .int .i64 y] 29)).alloc (.cells #[.int .i64 u, .int .i64 v] 29)
def BoxAt (w : World) (B : Nat) (x y : Int) : Prop := B < w.heap.size ∧ w.cell? ⟨B, 0, none⟩ = some (.int .i64 x) ∧ w.cell? ⟨B, 1, none⟩ = some (.int .i64 y)
theorem BoxAt.below {w w' : World} {B : Nat} {x y : Int} (h : BoxAt w B x y) (hb : Below w.heap.size w w') : BoxAt w' B x y :=
  ⟨Nat.lt_of_lt_of_le h.1 hb.size, (hb.cell (p := ⟨B, 0, none⟩) h.1).trans h.2.1, (hb.cell (p := ⟨B, 1, none⟩) h.1).trans h.2.2⟩
theorem BoxAt.new (w : World) (x y : Int) (t : TypeId) : BoxAt (w.alloc (.cells #[.int .i64 x, .int .i64 y] t)) w.heap.size x y := ⟨by simp, (box_cell w x y t).1, (box_cell w x y t).2⟩
/-- A box that may be written. -/
def ResAt (w : World) (B : Nat) (x y : Int) : Prop := BoxAt w B x y ∧ w.frozen? ⟨B, 0, none⟩ = false ∧ w.frozen? ⟨B, 1, none⟩ = false
theorem ResAt.below {w w' : World} {B : Nat} {x y : Int} (h : ResAt w B x y) (hb : Below w.heap.size w w') : ResAt w' B x y :=
  ⟨h.1.below hb, (hb.frozen (p := ⟨B, 0, none⟩) h.1.1).trans h.2.1, (hb.frozen (p := ⟨B, 1, none⟩) h.1.1).trans h.2.2⟩
theorem ResAt.new (w : World) (x y : Int) (t : TypeId) : ResAt (w.alloc (.cells #[.int .i64 x, .int .i64 y] t)) w.heap.size x y :=
  ⟨BoxAt.new w x y t, by unfold World.frozen?; rw [heap_alloc_new]; simp, by unfold World.frozen?; rw [heap_alloc_new]; simp⟩
theorem below_alloc (w : World) (o : Obj) : Below w.heap.size w (w.alloc o) := (Below.refl _ _).alloc (Nat.le_refl _) _
theorem BoxAt.alloc {w : World} {B : Nat} {x y : Int} (h : BoxAt w B x y) (o : Obj) : BoxAt (w.alloc o) B x y := h.below (below_alloc w o)

def doV (x y u v : Int) : Value := if spB x y && spB u v then .tuple #[.bool (meetB x y u v), .int .i64 0] else .tuple #[.bool false, .int .i64 1]
theorem doV_ok {x y u v : Int} (h1 : spB x y = true) (h2 : spB u v = true) : doV x y u v = .tuple #[.bool (meetB x y u v), .int .i64 0] := by unfold doV; rw [h1, h2]; rfl
theorem doV_bad {x y u v : Int} (h : (spB x y && spB u v) = false) : doV x y u v = .tuple #[.bool false, .int .i64 1] := by unfold doV; rw [h]; rfl

def meetV (x y u v : Int) : Value := if spB x y && spB u v then (if meetB x y u v then .tuple #[.agg #[.int .i64 (max x u), .int .i64 (min y v)], .int .i64 0] else .tuple #[.agg #[.int .i64 0, .int .i64 0], .int .i64 4]) else .tuple #[.agg #[.int .i64 0, .int .i64 0], .int .i64 1]
theorem meetV_ok {x y u v : Int} (h1 : spB x y = true) (h2 : spB u v = true) (h3 : meetB x y u v = true) : meetV x y u v = .tuple #[.agg #[.int .i64 (max x u), .int .i64 (min y v)], .int .i64 0] := by unfold meetV; rw [h1, h2, h3]; rfl
theorem meetV_apart {x y u v : Int} (h1 : spB x y = true) (h2 : spB u v = true) (h3 : meetB x y u v = false) : meetV x y u v = .tuple #[.agg #[.int .i64 0, .int .i64 0], .int .i64 4] := by unfold meetV; rw [h1, h2, h3]; rfl
theorem meetV_bad {x y u v : Int} (h : (spB x y && spB u v) = false) : meetV x y u v = .tuple #[.agg #[.int .i64 0, .int .i64 0], .int .i64 1] := by unfold meetV; rw [h]; rfl
end Go.Proofs.YtkbkgbhnfopgnaaDoor
