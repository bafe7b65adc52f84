/-
  A table of rules that is being drawn: the outer row and the rows of numbers, all of one's own; what appending leaves of them.
-/
import Derived.Test.YtnfdbpfegmodcaaRowLaw
import Derived.Test.YtnfdbpfegmodcaaPick
import Derived.Test.YtnfdbpfegmodcaaAddPlain
import Derived.Test.YtnfdbpfegmodcaaUsePlain
namespace Go.Proofs.Ytnfdbpfegmodcaa
set_option linter.unusedVariables false
open Go.RowKit

/-- Rows of different types share no block. -/
theorem rows_apart {w : World} {B B' s s' n n' : Nat} {T T' : TypeId} {v v' : Value} {xs xs' : List Value} (hT : T ≠ T') (h : w.ownsRow B T s v n xs) (h' : w.ownsRow B' T' s' v' n' xs') :
    v.ownBlock = none ∨ v.ownBlock ≠ v'.ownBlock := by
  rcases h.2 with ⟨rfl, _⟩ | ⟨g, cap, cur, rfl, _, h3, _⟩
  · exact .inl rfl
  · right
    intro e
    rcases h'.2 with ⟨rfl, _⟩ | ⟨g', cap', cur', rfl, _, h3', _⟩
    · cases e
    · simp [Value.ownBlock] at e
      subst e
      rw [h3] at h3'
      simp at h3'
      exact hT h3'.2
/-- The rules es lie in the row v, their numbers in rows of their own; all from block R on. -/
structure DTab (w : World) (R : Nat) (v : Value) (es : List El) : Prop where
  row : w.ownsRow R 35 2 v es.length (elsV es)
  inner : ∀ e ∈ es, w.ownsRow R 2 1 (.slice (some ⟨e.1, 0, none⟩) e.2.2.1.length e.2.1) e.2.2.1.length (intV e.2.2.1)
theorem DTab.kept {w w' : World} {R : Nat} {v : Value} {es : List El} {row : Option Nat} (h : DTab w R v es) (hg : w.grownBy w' row) (hne : ∀ x, row = some x → x < R) : DTab w' R v es := by
  have key : ∀ (u : Value) (T : TypeId) (s n : Nat) (xs : List Value), w.ownsRow R T s u n xs → w'.ownsRow R T s u n xs := by
    intro u T s n xs hu
    refine World.ownsRow.kept hu hg ?_
    cases hC : u.ownBlock with
    | none => exact .inl rfl
    | some x =>
      refine .inr (fun e => ?_)
      have h1 := hne x e.symm
      have h2 := (hu.lt x hC).1
      omega
  exact ⟨key _ _ _ _ _ h.row, fun e he => key _ _ _ _ _ (h.inner e he)⟩
theorem DTab.below {w w' : World} {R : Nat} {v : Value} {es : List El} (h : DTab w R v es) (hb : Below w.heap.size w w') : DTab w' R v es := h.kept (bgr hb none) (fun x hx => by cases hx)
theorem DTab.alloc {w : World} {R : Nat} {v : Value} {es : List El} (h : DTab w R v es) (o : Obj) : DTab (w.alloc o) R v es := h.below (alloc_below w o)
theorem DTab.nil {w : World} {R : Nat} (v : Value) (h : w.ownsRow R 35 2 v 0 []) : DTab w R v [] := ⟨h, fun e he => by simp at he⟩
theorem elV_eq (e : El) : [Value.slice (some ⟨e.1, 0, none⟩) e.2.2.1.length e.2.1, .string e.2.2.2] = elV e := rfl
/-- One rule more, appended. -/
theorem DTab.push {w w' : World} {R : Nat} {v v' : Value} {es : List El} {q : El} (h : DTab w R v es) (hq : w.ownsRow R 2 1 (.slice (some ⟨q.1, 0, none⟩) q.2.2.1.length q.2.1) q.2.2.1.length (intV q.2.2.1))
    (hrow : w'.ownsRow R 35 2 v' (es.length + 1) (elsV es ++ elV q)) (hg : w.grownBy w' v.ownBlock) : DTab w' R v' (es ++ [q]) := by
  have key : ∀ (e : El), w.ownsRow R 2 1 (.slice (some ⟨e.1, 0, none⟩) e.2.2.1.length e.2.1) e.2.2.1.length (intV e.2.2.1) → w'.ownsRow R 2 1 (.slice (some ⟨e.1, 0, none⟩) e.2.2.1.length e.2.1) e.2.2.1.length (intV e.2.2.1) :=
    fun e he => World.ownsRow.kept he hg (rows_apart (by decide) he h.row)
  refine ⟨?_, fun e he => ?_⟩
  · rw [List.length_append, elsV_app]
    have : elsV [q] = elV q := by simp [elsV]
    rw [this]; exact hrow
  · rw [List.mem_append, List.mem_singleton] at he
    rcases he with he | rfl
    · exact key e (h.inner e he)
    · exact key _ hq
/-- The drawn table as a list of rules to read. -/
theorem DTab.rules {w : World} {R : Nat} {v : Value} {es : List El} (h : DTab w R v es) (hs : ∀ r ∈ rulesOf es, r.1.length ≤ maxLen ∧ r.2.size ≤ maxLen) : ∃ A c, v = .slice A es.length c ∧ es.length ≤ c ∧ c ≤ maxLen ∧ RulesAt w w.heap.size A es.length (rulesOf es) := by
  rcases h.row.2 with ⟨rfl, h0⟩ | ⟨g, cap, cur, rfl, hb, h3, h4, h5, h6, h7⟩
  · have he : es = [] := List.length_eq_zero_iff.1 h0
    subst he
    exact ⟨none, 0, rfl, Nat.le_refl _, by unfold maxLen; omega, rfl, fun hp => absurd hp (by simp)⟩
  · refine ⟨some ⟨g, 0, none⟩, cap, rfl, h4, h5, by simp [rulesOf], fun hp => ⟨g, 0, rfl, (h.row.lt g rfl).2, fun j r hr => ?_⟩⟩
    unfold rulesOf at hr
    rw [List.getElem?_map] at hr
    cases he : es[j]? with
    | none => rw [he] at hr; cases hr
    | some e =>
      rw [he] at hr
      have hre : e.2.2 = r := by simpa using hr
      have hem := List.mem_of_getElem? he
      have hjl := (List.getElem?_eq_some_iff.1 he).1
      have hcat := elsV_at es j e he
      have hin := h.inner e hem
      have hsz := hs e.2.2 (by unfold rulesOf; exact List.mem_map_of_mem hem)
      refine ⟨some ⟨e.1, 0, none⟩, e.2.2.1.length, e.2.1, ?_, ?_, ?_, hsz.1, by rw [← hre]; exact hsz.2⟩
      · rw [Nat.zero_add]; exact (h.row.cellAt (j * 2) (by omega)).trans hcat.1
      · rw [Nat.zero_add, ← hre]; exact (h.row.cellAt (j * 2 + 1) (by omega)).trans hcat.2
      · rw [← hre]
        exact RowI.num (RowI.of hin)
end Go.Proofs.Ytnfdbpfegmodcaa
