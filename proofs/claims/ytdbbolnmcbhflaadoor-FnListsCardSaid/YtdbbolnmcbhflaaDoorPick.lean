/-
  The contracts of the draws of spans: spec.l01Pick, spec.l02Good, spec.l02Draw.
-/
import Derived.Test.YtdbbolnmcbhflaaDoorDraw
import Derived.Test.YtdbbolnmcbhflaaDoorBox
namespace Go.Proofs.YtdbbolnmcbhflaaDoor
set_option linter.unusedVariables false
open Go.RowKit

/-- A row of numbers between lo and hi at block P. -/
def NumRow (w : World) (P n : Nat) (lo hi : Int) : Prop := P < w.heap.size ∧ ∀ j : Nat, j < n → ∃ x : Int, lo ≤ x ∧ x ≤ hi ∧ w.cell? ⟨P, j, none⟩ = some (.int .i64 x)
theorem NumRow.kept {w w' : World} {P n B : Nat} {lo hi : Int} (h : NumRow w P n lo hi) (hg : w.grownBy w' (some B)) (hne : P ≠ B) : NumRow w' P n lo hi :=
  ⟨Nat.lt_of_lt_of_le h.1 hg.size, fun j hj => by
    obtain ⟨x, h0, h1, hc⟩ := h.2 j hj
    exact ⟨x, h0, h1, hg.cell hc (by simp; exact hne)⟩⟩
def PickPost (lo hi : Int) (w : World) (B len : Nat) (e : Ending) (w' : World) : Prop := ∃ r : Int, lo ≤ r ∧ r ≤ hi ∧ e = .returned (.int .i64 r) ∧ Src w' B len ∧ w.grownBy w' (some B)

set_option maxHeartbeats 1000000 in
theorem cPick (B len P n cap : Nat) (lo hi : Int) (w : World) (hlen : len ≤ 1048576) (hn : 0 < n) (hn2 : n ≤ 100) (hne : P ≠ B) (hr : NumRow w P n lo hi) (h : Src w B len) :
    Calls Tryd.prog 48 #[.pointer (some ⟨B, 0, none⟩), .slice (some ⟨P, 0, none⟩) n cap] w (PickPost lo hi w B len) := by
  have C := Lib.hid (cNext B len n w hlen (by omega) (by omega) h)
  have HR := Lib.hid hr
  clear h hr
  go_enter Tryd.func48, Tryd.ntmps48
  go_wp2_with fail
  refine C.out.mono ?_
  rintro e w1 ⟨r, hr0, hr1, rfl, hS, hg⟩
  have hr2 : r < n := by omega
  obtain ⟨k, rfl⟩ : ∃ k : Nat, r = k := ⟨r.toNat, by omega⟩
  obtain ⟨x, h0, h1, hc⟩ := (HR.out.kept hg hne).2 k (by omega)
  have HS := Lib.hid hS
  clear hr1 hS
  go_wp2_with fail
  go_ret
  exact ⟨x, h0, h1, rfl, HS.out, hg⟩

theorem rowLit (w : World) (vs : List Int) (lo hi : Int) (h : ∀ v ∈ vs, lo ≤ v ∧ v ≤ hi) (t : TypeId) : NumRow (w.alloc (.cells (vs.map (Value.int .i64)).toArray t)) w.heap.size vs.length lo hi := by
  refine ⟨by simp, fun j hj => ?_⟩
  rw [World.cell?_alloc_at _ _ _ _ rfl]
  have hx : vs[j]? = some vs[j] := List.getElem?_eq_getElem hj
  have hm := h _ (List.mem_of_getElem? hx)
  exact ⟨vs[j], hm.1, hm.2, by simp [hx]⟩
theorem ResAt.grownB {w w' : World} {P B : Nat} {x y : Int} (h : ResAt w P x y) (hg : w.grownBy w' (some B)) (hne : P ≠ B) : ResAt w' P x y := by
  have hb := hg.block P h.1.1 (fun e => hne (Option.some.inj e))
  exact ⟨⟨Nat.lt_of_lt_of_le h.1.1 hg.size, (World.cell?_of_block (w := w) (a := ⟨P, 0, none⟩) hb).trans h.1.2.1, (World.cell?_of_block (w := w) (a := ⟨P, 1, none⟩) hb).trans h.1.2.2⟩, (World.frozen?_of_block (w := w) (a := ⟨P, 0, none⟩) hb).trans h.2.1, (World.frozen?_of_block (w := w) (a := ⟨P, 1, none⟩) hb).trans h.2.2⟩
theorem grown_set2 {w w' : World} {B g : Nat} (h : w.grownBy w' (some B)) (hg : w.heap.size ≤ g) (x y : Value) : w.grownBy ((w'.setCell ⟨g, 0, none⟩ x).setCell ⟨g, 1, none⟩ y) (some B) :=
  ⟨h.os, h.tape, h.output, (by simp; exact h.size), fun k hk hne => by
    rw [Below.heap_setCell _ _ _ k (by show k ≠ g; omega), Below.heap_setCell _ _ _ k (by show k ≠ g; omega)]
    exact h.block k hk hne⟩
theorem heap_set2 (w : World) (g k : Nat) (x y : Value) (h : k ≠ g) : ((w.setCell ⟨g, 0, none⟩ x).setCell ⟨g, 1, none⟩ y).heap[k]? = w.heap[k]? := by
  rw [Below.heap_setCell _ _ _ k h, Below.heap_setCell _ _ _ k h]
theorem Src.set2 {w : World} {B len g : Nat} (h : Src w B len) (hB : B < g) (x y : Value) : Src ((w.setCell ⟨g, 0, none⟩ x).setCell ⟨g, 1, none⟩ y) B len := by
  obtain ⟨A, cap, a, s, hT, h1, h2, h3, h4, h5⟩ := h
  refine ⟨A, cap, a, s, (heap_set2 w g B x y (by omega)).trans hT, h1, h2, h3, h4, fun hp => ?_⟩
  obtain ⟨b, o, hA, hlt, hbl, hc⟩ := h5 hp
  refine ⟨b, o, hA, hlt, by simpa using hbl, fun j hj => ?_⟩
  obtain ⟨z, z0, z1, hz⟩ := hc j hj
  exact ⟨z, z0, z1, (World.cell?_of_block (w := w) (a := ⟨b, o + j, none⟩) (heap_set2 w g b x y (by omega))).trans hz⟩
theorem srcAlloc {w : World} {B len : Nat} (h : Src w B len) (o : Obj) : Src (w.alloc o) B len := h.alloc o
/-- A drawn span: both numbers are small. -/
def SpanPost (m : Int) (w : World) (B len : Nat) (e : Ending) (w' : World) : Prop := ∃ x y : Int, -m ≤ x ∧ x ≤ m ∧ -m ≤ y ∧ y ≤ m ∧ e = .returned (.agg #[.int .i64 x, .int .i64 y]) ∧ Src w' B len ∧ w.grownBy w' (some B)

theorem heap_set1 (w : World) (g i k : Nat) (x : Value) (h : k ≠ g) : (w.setCell ⟨g, i, none⟩ x).heap[k]? = w.heap[k]? := Below.heap_setCell _ _ _ k h
theorem ResAt.other {w : World} {P g i : Nat} {x y : Int} {u : Value} (h : ResAt w P x y) (hne : P ≠ g) : ResAt (w.setCell ⟨g, i, none⟩ u) P x y := by
  have hb := heap_set1 w g i P u hne
  exact ⟨⟨by simpa using h.1.1, (World.cell?_of_block (w := w) (a := ⟨P, 0, none⟩) hb).trans h.1.2.1, (World.cell?_of_block (w := w) (a := ⟨P, 1, none⟩) hb).trans h.1.2.2⟩, (World.frozen?_of_block (w := w) (a := ⟨P, 0, none⟩) hb).trans h.2.1, (World.frozen?_of_block (w := w) (a := ⟨P, 1, none⟩) hb).trans h.2.2⟩
theorem BoxAt.set_0 {w : World} {P : Nat} {x y : Int} (h : BoxAt w P x y) (u : Int) : BoxAt (w.setCell ⟨P, 0, none⟩ (.int .i64 u)) P u y := by
  refine ⟨by simpa using h.1, World.cell?_setCell_same' _ _ _ (by rw [h.2.1]; rfl), ?_⟩
  rw [World.cell?_setCell_other _ _ _ _ (by intro e; injection e; omega)]; exact h.2.2
theorem BoxAt.set_1 {w : World} {P : Nat} {x y : Int} (h : BoxAt w P x y) (u : Int) : BoxAt (w.setCell ⟨P, 1, none⟩ (.int .i64 u)) P x u := by
  refine ⟨by simpa using h.1, ?_, World.cell?_setCell_same' _ _ _ (by rw [h.2.2]; rfl)⟩
  rw [World.cell?_setCell_other _ _ _ _ (by intro e; injection e; omega)]; exact h.2.1
theorem Src.set1 {w : World} {B len g i : Nat} (h : Src w B len) (hB : B < g) (x : Value) : Src (w.setCell ⟨g, i, none⟩ x) B len := by
  obtain ⟨A, cap, a, s, hT, h1, h2, h3, h4, h5⟩ := h
  refine ⟨A, cap, a, s, (heap_set1 w g i B x (by omega)).trans hT, h1, h2, h3, h4, fun hp => ?_⟩
  obtain ⟨b, o, hA, hlt, hbl, hc⟩ := h5 hp
  refine ⟨b, o, hA, hlt, by simpa using hbl, fun j hj => ?_⟩
  obtain ⟨z, z0, z1, hz⟩ := hc j hj
  exact ⟨z, z0, z1, (World.cell?_of_block (w := w) (a := ⟨b, o + j, none⟩) (heap_set1 w g i b x (by omega))).trans hz⟩
theorem grown_set1 {w w' : World} {B g i : Nat} (h : w.grownBy w' (some B)) (hg : w.heap.size ≤ g) (x : Value) : w.grownBy (w'.setCell ⟨g, i, none⟩ x) (some B) :=
  ⟨h.os, h.tape, h.output, (by simp; exact h.size), fun k hk hne => by
    rw [Below.heap_setCell _ _ _ k (by show k ≠ g; omega)]
    exact h.block k hk hne⟩

end Go.Proofs.YtdbbolnmcbhflaaDoor
