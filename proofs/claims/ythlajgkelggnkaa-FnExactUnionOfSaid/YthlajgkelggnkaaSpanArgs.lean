/-
  What a walk is told of a span that came in by value, and of a slice of spans that came in: its spans as a list of pairs.
-/
import Derived.Test.YthlajgkelggnkaaSpanPlain
import Derived.Below
import Derived.Deep.Slices
import Derived.Deep.Fields
import Derived.ChangeSame
import Derived.Lib.SmallJoins
import Derived.Deep.AppendLies
import Derived.Laws.OwnMore
import Derived.WalkKit
import Derived.Test.YthlajgkelggnkaaChecked
namespace Go.Proofs.Ythlajgkelggnkaa
set_option linter.unusedVariables false
open Go.ChangeShapes Go.WideShapes Go.Deep Go.RowKit

/-- The slice at address A, of n elements, holds the spans xs; it lies below block B. -/
def SpanAt (w : World) (B : Nat) (A : Option Addr) (n : Nat) (xs : List Sp) : Prop :=
  xs.length = n ∧ ∀ (k : Nat) p, xs[k]? = some p → ∃ b o, A = some ⟨b, o, none⟩ ∧ b < B ∧ w.cell? ⟨b, o + k * 2, none⟩ = some (.int .i64 p.1) ∧ w.cell? ⟨b, o + k * 2 + 1, none⟩ = some (.int .i64 p.2)
theorem SpanAt.below {w w' : World} {B n : Nat} {A : Option Addr} {xs : List Sp} (h : SpanAt w B A n xs) (hb : Below B w w') : SpanAt w' B A n xs :=
  ⟨h.1, fun k p hp => by
    obtain ⟨b, o, hA, hlt, h1, h2⟩ := h.2 k p hp
    exact ⟨b, o, hA, hlt, (hb.cell (p := ⟨b, o + k * 2, none⟩) hlt).trans h1, (hb.cell (p := ⟨b, o + k * 2 + 1, none⟩) hlt).trans h2⟩⟩
theorem SpanAt.more {w : World} {B B' n : Nat} {A : Option Addr} {xs : List Sp} (h : SpanAt w B A n xs) (hB : B ≤ B') : SpanAt w B' A n xs :=
  ⟨h.1, fun k p hp => by
    obtain ⟨b, o, hA, hlt, h1, h2⟩ := h.2 k p hp
    exact ⟨b, o, hA, by omega, h1, h2⟩⟩
theorem SpanAt.nil (w : World) (B : Nat) (A : Option Addr) : SpanAt w B A 0 [] := ⟨rfl, fun k p h => by simp at h⟩
theorem add_plain2 (b o i : Nat) : (⟨b, o, none⟩ : Addr).add i = ⟨b, o + i, none⟩ := by
  unfold Addr.add
  split
  · rename_i h; simp_all
  · rfl
theorem SpanAt.own {w : World} {A : Option Addr} {n c base : Nat} {xs : List Sp} {t : TypeId} (h : w.ownsRow base t 2 (.slice A n c) n (spanV xs)) : SpanAt w w.heap.size A n xs := by
  have hl : xs.length = n := by have := h.1; rw [spanV_len] at this; omega
  refine ⟨hl, fun k p hp => ?_⟩
  have hk := (List.getElem?_eq_some_iff.1 hp).1
  obtain ⟨g, cap, hv, _, hlt⟩ := h.form (by omega)
  have hA : A = some ⟨g, 0, none⟩ := by injection hv
  subst hA
  have hc := spanV_at xs k p hp
  have h1 := h.cells (g := g) rfl _ _ hc.1
  have h2 := h.cells (g := g) rfl _ _ hc.2
  refine ⟨g, 0, rfl, hlt, ?_, ?_⟩
  · rw [← h1, add_plain2]
  · rw [← h2, add_plain2, Nat.zero_add, Nat.zero_add]
theorem _root_.Go.World.ownsRow.own_ {w : World} {A : Option Addr} {n c base : Nat} {xs : List Sp} {t : TypeId} (h : w.ownsRow base t 2 (.slice A n c) n (spanV xs)) : SpanAt w w.heap.size A n xs := SpanAt.own h
theorem exists_list {α : Type} {Q : Nat → α → Prop} : ∀ (n : Nat), (∀ i, i < n → ∃ p, Q i p) → ∃ l : List α, l.length = n ∧ ∀ (i : Nat) p, l[i]? = some p → Q i p
  | 0, _ => ⟨[], rfl, fun i p h => by simp at h⟩
  | n + 1, h => by
    obtain ⟨l, hl, hq⟩ := exists_list n (fun i hi => h i (by omega))
    obtain ⟨p, hp⟩ := h n (by omega)
    refine ⟨l ++ [p], by simp [hl], fun i q hi => ?_⟩
    by_cases hlt : i < n
    · rw [List.getElem?_append_left (by omega)] at hi; exact hq i q hi
    · rw [List.getElem?_append_right (by omega)] at hi
      have hil := (List.getElem?_eq_some_iff.1 hi).1
      simp at hil
      have hin : i = n := by omega
      subst hin
      rw [hl, Nat.sub_self] at hi
      obtain rfl : p = q := by simpa using hi
      exact hp
section
variable {H : Type} {enc : TypeId × Value → H} {w : World} {base : Nat} {spare : Nat → Bool} {held : Bool}
set_option maxRecDepth 100000 in
theorem openSpan {r : Reach} {b0 : Nat} {v : Value} {d : DataW H} {p : List MemPlace} (hv : Value.okWide Try.prog w r b0 68 v) (h : DataW.Trod enc Try.prog w base spare held 68 v d p) :
    ∃ x y : Int, v = .agg #[.int .i64 x, .int .i64 y] ∧ (Lit.int .i64 x).wf = true ∧ (Lit.int .i64 y).wf = true := by
  obtain ⟨v0, v1, y0, y1, n, rfl, _, _, h0, h1⟩ := Joins.open_agg2 Try.underlying68 (by kernel_rfl) (by kernel_rfl) hv h
  obtain ⟨x, hx, _, wx⟩ := DataW.trod_int Try.underlying2 h0
  obtain ⟨y, hy, _, wy⟩ := DataW.trod_int Try.underlying2 h1
  injection hx with hx _
  injection hy with hy _
  subst hx; subst hy
  exact ⟨x, y, rfl, wx, wy⟩

set_option maxRecDepth 100000 in
theorem openSpans {r : Reach} {b0 : Nat} {v : Value} {d : DataW H} {p : List MemPlace} (hv : Value.okWide Try.prog w r b0 46 v) (h : DataW.Trod enc Try.prog w base (fun _ => true) held 46 v d p) :
    ∃ (a : Option Addr) (len cap : Nat) (zs : List Sp), v = .slice a len cap ∧ len ≤ maxLen ∧ SpanAt w w.heap.size a len zs := by
  obtain ⟨a, len, cap, rfl⟩ := okWide_slice Try.underlying46 hv
  obtain ⟨fuel, hf⟩ := h
  rcases open_slice Try.underlying46 hf with ⟨hcs, _⟩ | ⟨x, l, c, m, n, D, Pl, hcs, _, hl, hm, hmm, _, hi⟩
  · simp [Value.cells] at hcs
    obtain ⟨rfl, rfl, rfl⟩ := hcs
    exact ⟨none, 0, 0, [], rfl, Nat.zero_le _, SpanAt.nil _ _ _⟩
  · simp [Value.cells] at hcs
    obtain ⟨rfl, rfl, rfl⟩ := hcs
    have hC : (Try.prog).cellsOf 68 = 2 := by kernel_rfl
    have hm2 : m = cap := by simpa using hmm
    have key0 : ∀ i, i < len → ∃ u v : Int, w.cell? ((x.add (i * 2)).add 0) = some (.int .i64 u) ∧ w.cell? ((x.add (i * 2)).add 1) = some (.int .i64 v) := by
      intro i hil
      obtain ⟨cs', hc, ht⟩ := hi i (by omega)
      rw [hC] at hc
      obtain ⟨_, hcl, hat⟩ := World.cells?_some hc
      obtain ⟨y0, y1, n', _, _, h0, h1⟩ := trod_struct2 Try.underlying68 ht
      have hc0 := hat 0 (by omega)
      have hc1 := hat 1 (by omega)
      match cs', hcl with
      | [c0, c1], _ =>
        have k0 : (Try.prog).cellsOf 2 = 1 := by kernel_rfl
        simp only [k0, List.drop_zero, List.drop_succ_cons, List.take_succ_cons, List.take_zero] at h0 h1
        obtain ⟨u, hu, _, _⟩ := DataW.trod_int Try.underlying2 h0
        obtain ⟨v, hv, _, _⟩ := DataW.trod_int Try.underlying2 h1
        injection hu with hu _
        injection hv with hv _
        subst hu; subst hv
        rw [List.getElem?_cons_zero] at hc0
        rw [show ([Value.int .i64 u, .int .i64 v] : List Value)[1]? = some (.int .i64 v) from rfl] at hc1
        exact ⟨u, v, hc0, hc1⟩
    obtain ⟨b, o, spot⟩ := x
    have key : ∀ i, i < len → ∃ p : Sp, ∃ b' o', (some ⟨b, o, spot⟩ : Option Addr) = some ⟨b', o', none⟩ ∧ b' < w.heap.size ∧ w.cell? ⟨b', o' + i * 2, none⟩ = some (.int .i64 p.1) ∧ w.cell? ⟨b', o' + i * 2 + 1, none⟩ = some (.int .i64 p.2) := by
      intro i hil
      have hsp : spot = none := by
        obtain ⟨u, v, h0, _⟩ := key0 0 (by omega)
        simpa [Addr.add] using World.cell?_spot h0
      subst hsp
      obtain ⟨u, v, h0, h1⟩ := key0 i hil
      rw [add_plain2, add_plain2, Nat.add_zero] at h0
      rw [add_plain2, add_plain2] at h1
      exact ⟨(u, v), b, o, rfl, World.block_lt_of_cell? w _ h0, h0, h1⟩
    obtain ⟨zs, hzl, hz⟩ := exists_list len key
    exact ⟨some ⟨b, o, spot⟩, len, cap, zs, rfl, by omega, hzl, hz⟩
end
end Go.Proofs.Ythlajgkelggnkaa
