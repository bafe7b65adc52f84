/-
  'Gr w w2': the world w2 is w after some draws, with new blocks behind it. And slices.Clone at a key, with that word on the world.
-/
import Derived.Test.YtjockiedganokaaDoorKeyRows
import Derived.Test.YtjockiedganokaaDoorSl
import Derived.ArgAppend
namespace Go.Proofs.YtjockiedganokaaDoor
set_option linter.unusedVariables false
open Go.RowKit

def Gr (w w' : World) : Prop := ∃ q os, w' = Sort.grow (w.drewN q) os
theorem Gr.refl (w : World) : Gr w w := ⟨0, #[], by rw [Sort.grow_empty]; rfl⟩
theorem Gr.trans {a b c : World} (h : Gr a b) (k : Gr b c) : Gr a c := by
  obtain ⟨q, os, rfl⟩ := h
  obtain ⟨q', os', rfl⟩ := k
  refine ⟨q + q', os ++ os', ?_⟩
  rw [← Sort.grow_grow, ← World.drewN_drewN]; rfl
theorem Gr.alloc {a b : World} (h : Gr a b) (o : Obj) : Gr a (b.alloc o) := h.trans ⟨0, #[o], by rw [Sort.alloc_eq_grow]; rfl⟩
theorem Gr.drew {a b : World} (h : Gr a b) : Gr a b.drew := h.trans ⟨1, #[], by rw [Sort.grow_empty]; rfl⟩
theorem Gr.drewN {a b : World} (h : Gr a b) (q : Nat) : Gr a (b.drewN q) := h.trans ⟨q, #[], by rw [Sort.grow_empty]⟩
theorem Gr.below {a b : World} (h : Gr a b) : Below a.heap.size a b := by
  obtain ⟨q, os, rfl⟩ := h
  exact ⟨rfl, rfl, rfl, by show a.heap.size ≤ (a.heap ++ os).size; simp, fun k hk => by show (a.heap ++ os)[k]? = a.heap[k]?; rw [Array.getElem?_append_left hk]⟩
theorem Gr.size {a b : World} (h : Gr a b) : a.heap.size ≤ b.heap.size := h.below.size
/-- A write into blocks that are new keeps the word. -/
theorem Gr.of_new {a b c : World} (h : Gr a b) (hos : c.os = b.os) (ht : c.tape = b.tape) (ho : c.output = b.output) (hd : b.drawn ≤ c.drawn) (hs : b.heap.size = c.heap.size) (hb : ∀ k, k < a.heap.size → c.heap[k]? = b.heap[k]?) : Gr a c := by
  obtain ⟨q, os, rfl⟩ := h
  have hbl : ∀ k, k < a.heap.size → c.heap[k]? = a.heap[k]? := fun k hk => by
    rw [hb k hk]; show (a.heap ++ os)[k]? = a.heap[k]?; rw [Array.getElem?_append_left hk]
  have hsz : c.heap.size = a.heap.size + os.size := by rw [← hs]; show (a.heap ++ os).size = _; simp
  have hdr : c.drawn = a.drawn + (c.drawn - a.drawn) := by
    have h1 : a.drawn + q ≤ c.drawn := hd
    omega
  refine ⟨c.drawn - a.drawn, c.heap.extract a.heap.size c.heap.size, ?_⟩
  have hheap : c.heap = a.heap ++ c.heap.extract a.heap.size c.heap.size := by
    apply Array.ext_getElem?
    intro i
    rcases Nat.lt_or_ge i a.heap.size with h1 | h1
    · rw [Array.getElem?_append_left h1, hbl i h1]
    · rw [Array.getElem?_append_right h1, Array.getElem?_extract]
      split
      · congr 1; omega
      · rw [Array.getElem?_eq_none (by omega)]
  cases c
  simp only at hos ht ho hdr hheap
  unfold Sort.grow World.drewN
  simp only [World.mk.injEq]
  exact ⟨hheap, ht, hdr, hos, ho⟩
end Go.Proofs.YtjockiedganokaaDoor
