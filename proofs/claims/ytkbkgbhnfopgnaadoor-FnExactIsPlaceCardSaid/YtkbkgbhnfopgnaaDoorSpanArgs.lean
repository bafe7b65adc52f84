/-
  What a walk is told of a span that came in by value, and of a slice of spans that came in: its spans as a list of pairs.
-/
import Derived.Test.YtkbkgbhnfopgnaaDoorSpanPlain
import Derived.Below
import Derived.Deep.Slices
import Derived.Deep.Fields
import Derived.ChangeSame
import Derived.Lib.SmallJoins
import Derived.Deep.AppendLies
import Derived.Laws.OwnMore
import Derived.WalkKit
import Derived.Test.YtkbkgbhnfopgnaaDoorChecked
namespace Go.Proofs.YtkbkgbhnfopgnaaDoor
set_option linter.unusedVariables false
open Go.ChangeShapes Go.WideShapes Go.Deep Go.RowKit

/-- The slice at address A, of n elements, holds the spans xs; it lies below block B. -/
def SpanAt (w : World) (B : Nat) (A : Option Addr) (n : Nat) (xs : List Spn) : Prop :=
  xs.length = n ∧ ∀ (k : Nat) p, xs[k]? = some p → ∃ b o, A = some ⟨b, o, none⟩ ∧ b < B ∧ w.cell? ⟨b, o + k * 2, none⟩ = some (.int .i64 p.1) ∧ w.cell? ⟨b, o + k * 2 + 1, none⟩ = some (.int .i64 p.2)
theorem SpanAt.below {w w' : World} {B n : Nat} {A : Option Addr} {xs : List Spn} (h : SpanAt w B A n xs) (hb : Below B w w') : SpanAt w' B A n xs :=
  ⟨h.1, fun k p hp => by
    obtain ⟨b, o, hA, hlt, h1, h2⟩ := h.2 k p hp
    exact ⟨b, o, hA, hlt, (hb.cell (p := ⟨b, o + k * 2, none⟩) hlt).trans h1, (hb.cell (p := ⟨b, o + k * 2 + 1, none⟩) hlt).trans h2⟩⟩
theorem SpanAt.more {w : World} {B B' n : Nat} {A : Option Addr} {xs : List Spn} (h : SpanAt w B A n xs) (hB : B ≤ B') : SpanAt w B' A n xs :=
  ⟨h.1, fun k p hp => by
    obtain ⟨b, o, hA, hlt, h1, h2⟩ := h.2 k p hp
    exact ⟨b, o, hA, by omega, h1, h2⟩⟩
theorem SpanAt.nil (w : World) (B : Nat) (A : Option Addr) : SpanAt w B A 0 [] := ⟨rfl, fun k p h => by simp at h⟩
theorem add_plain2 (b o i : Nat) : (⟨b, o, none⟩ : Addr).add i = ⟨b, o + i, none⟩ := by
  unfold Addr.add
  split
  · rename_i h; simp_all
  · rfl
theorem SpanAt.own {w : World} {A : Option Addr} {n c base : Nat} {xs : List Spn} {t : TypeId} (h : w.ownsRow base t 2 (.slice A n c) n (spanV xs)) : SpanAt w w.heap.size A n xs := by
  have hl : xs.length = n := by have := h.1; rw [spanV_len] at this; omega
  refine ⟨hl, fun k p hp => ?_⟩
  have hk := (List.getElem?_eq_some_iff.1 hp).1
  obtain ⟨g, cap, hv, _, hlt⟩ := h.form (by omega)
  have hA : A = some ⟨g, 0, none⟩ := by injection hv
  subst hA
  have hc := spanV_at xs k p hp
  have h1 := h.cells (g := g) rfl _ _ hc.1
  have h2 := h.cells (g := g) rfl _ _ hc.2
  refine ⟨g, 0, rfl, hlt, ?_, ?_⟩
  · rw [← h1, add_plain2]
  · rw [← h2, add_plain2, Nat.zero_add, Nat.zero_add]
theorem _root_.Go.World.ownsRow.own_ {w : World} {A : Option Addr} {n c base : Nat} {xs : List Spn} {t : TypeId} (h : w.ownsRow base t 2 (.slice A n c) n (spanV xs)) : SpanAt w w.heap.size A n xs := SpanAt.own h
theorem exists_list {α : Type} {Q : Nat → α → Prop} : ∀ (n : Nat), (∀ i, i < n → ∃ p, Q i p) → ∃ l : List α, l.length = n ∧ ∀ (i : Nat) p, l[i]? = some p → Q i p
  | 0, _ => ⟨[], rfl, fun i p h => by simp at h⟩
  | n + 1, h => by
    obtain ⟨l, hl, hq⟩ := exists_list n (fun i hi => h i (by omega))
    obtain ⟨p, hp⟩ := h n (by omega)
    refine ⟨l ++ [p], by simp [hl], fun i q hi => ?_⟩
    by_cases hlt : i < n
    · rw [List.getElem?_append_left (by omega)] at hi; exact hq i q hi
    · rw [List.getElem?_append_right (by omega)] at hi
      have hil := (List.getElem?_eq_some_iff.1 hi).1
      simp at hil
      have hin : i = n := by omega
      subst hin
      rw [hl, Nat.sub_self] at hi
      obtain rfl : p = q := by simpa using hi
      exact hp
section
variable {H : Type} {enc : TypeId × Value → H} {w : World} {base : Nat} {spare : Nat → Bool} {held : Bool}
set_option maxRecDepth 100000 in
theorem openSpan {r : Reach} {b0 : Nat} {v : Value} {d : DataW H} {p : List MemPlace} (hv : Value.okWide Tryd.prog w r b0 23 v) (h : DataW.Trod enc Tryd.prog w base spare held 23 v d p) :
    ∃ x y : Int, v = .agg #[.int .i64 x, .int .i64 y] ∧ (Lit.int .i64 x).wf = true ∧ (Lit.int .i64 y).wf = true := by
  obtain ⟨v0, v1, y0, y1, n, rfl, _, _, h0, h1⟩ := Joins.open_agg2 Tryd.underlying23 (by kernel_rfl) (by kernel_rfl) hv h
  obtain ⟨x, hx, _, wx⟩ := DataW.trod_int Tryd.underlying2 h0
  obtain ⟨y, hy, _, wy⟩ := DataW.trod_int Tryd.underlying2 h1
  injection hx with hx _
  injection hy with hy _
  subst hx; subst hy
  exact ⟨x, y, rfl, wx, wy⟩

end
end Go.Proofs.YtkbkgbhnfopgnaaDoor
