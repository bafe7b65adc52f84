/-
  The contracts of the draws of spans: spec.l01Pick, spec.l02Good, spec.l02Draw.
-/
import Derived.Test.YtlogbgkbdjdkkaaDraw
import Derived.Test.YtlogbgkbdjdkkaaDraw
namespace Go.Proofs.Ytlogbgkbdjdkkaa
set_option linter.unusedVariables false
open Go.RowKit

/-- A row of numbers between lo and hi at block P. -/
def NumRow (w : World) (P n : Nat) (lo hi : Int) : Prop := P < w.heap.size ∧ ∀ j : Nat, j < n → ∃ x : Int, lo ≤ x ∧ x ≤ hi ∧ w.cell? ⟨P, j, none⟩ = some (.int .i64 x)
theorem NumRow.kept {w w' : World} {P n B : Nat} {lo hi : Int} (h : NumRow w P n lo hi) (hg : w.grownBy w' (some B)) (hne : P ≠ B) : NumRow w' P n lo hi :=
  ⟨Nat.lt_of_lt_of_le h.1 hg.size, fun j hj => by
    obtain ⟨x, h0, h1, hc⟩ := h.2 j hj
    exact ⟨x, h0, h1, hg.cell hc (by simp; exact hne)⟩⟩
def PickPost (lo hi : Int) (w : World) (B len : Nat) (e : Ending) (w' : World) : Prop := ∃ r : Int, lo ≤ r ∧ r ≤ hi ∧ e = .returned (.int .i64 r) ∧ Src w' B len ∧ w.grownBy w' (some B)

set_option maxHeartbeats 1000000 in
theorem cPick (B len P n cap : Nat) (lo hi : Int) (w : World) (hlen : len ≤ 1048576) (hn : 0 < n) (hn2 : n ≤ 100) (hne : P ≠ B) (hr : NumRow w P n lo hi) (h : Src w B len) :
    Calls Try.prog 65 #[.pointer (some ⟨B, 0, none⟩), .slice (some ⟨P, 0, none⟩) n cap] w (PickPost lo hi w B len) := by
  have C := Lib.hid (cNext B len n w hlen (by omega) (by omega) h)
  have HR := Lib.hid hr
  clear h hr
  go_enter Try.func65, Try.ntmps65
  go_wp2_with fail
  refine C.out.mono ?_
  rintro e w1 ⟨r, hr0, hr1, rfl, hS, hg⟩
  have hr2 : r < n := by omega
  obtain ⟨k, rfl⟩ : ∃ k : Nat, r = k := ⟨r.toNat, by omega⟩
  obtain ⟨x, h0, h1, hc⟩ := (HR.out.kept hg hne).2 k (by omega)
  have HS := Lib.hid hS
  clear hr1 hS
  go_wp2_with fail
  go_ret
  exact ⟨x, h0, h1, rfl, HS.out, hg⟩

theorem rowLit (w : World) (vs : List Int) (lo hi : Int) (h : ∀ v ∈ vs, lo ≤ v ∧ v ≤ hi) (t : TypeId) : NumRow (w.alloc (.cells (vs.map (Value.int .i64)).toArray t)) w.heap.size vs.length lo hi := by
  refine ⟨by simp, fun j hj => ?_⟩
  rw [World.cell?_alloc_at _ _ _ _ rfl]
  have hx : vs[j]? = some vs[j] := List.getElem?_eq_getElem hj
  have hm := h _ (List.mem_of_getElem? hx)
  exact ⟨vs[j], hm.1, hm.2, by simp [hx]⟩
theorem srcAlloc {w : World} {B len : Nat} (h : Src w B len) (o : Obj) : Src (w.alloc o) B len := h.alloc o
/-- A drawn span: both numbers are small. -/
theorem heap_set1 (w : World) (g i k : Nat) (x : Value) (h : k ≠ g) : (w.setCell ⟨g, i, none⟩ x).heap[k]? = w.heap[k]? := Below.heap_setCell _ _ _ k h
theorem Src.set1 {w : World} {B len g i : Nat} (h : Src w B len) (hB : B < g) (x : Value) : Src (w.setCell ⟨g, i, none⟩ x) B len := by
  obtain ⟨A, cap, a, s, hT, h1, h2, h3, h4, h5⟩ := h
  refine ⟨A, cap, a, s, (heap_set1 w g i B x (by omega)).trans hT, h1, h2, h3, h4, fun hp => ?_⟩
  obtain ⟨b, o, hA, hlt, hbl, hc⟩ := h5 hp
  refine ⟨b, o, hA, hlt, by simpa using hbl, fun j hj => ?_⟩
  obtain ⟨z, z0, z1, hz⟩ := hc j hj
  exact ⟨z, z0, z1, (World.cell?_of_block (w := w) (a := ⟨b, o + j, none⟩) (heap_set1 w g i b x (by omega))).trans hz⟩
theorem grown_set1 {w w' : World} {B g i : Nat} (h : w.grownBy w' (some B)) (hg : w.heap.size ≤ g) (x : Value) : w.grownBy (w'.setCell ⟨g, i, none⟩ x) (some B) :=
  ⟨h.os, h.tape, h.output, (by simp; exact h.size), fun k hk hne => by
    rw [Below.heap_setCell _ _ _ k (by show k ≠ g; omega)]
    exact h.block k hk hne⟩

end Go.Proofs.Ytlogbgkbdjdkkaa
