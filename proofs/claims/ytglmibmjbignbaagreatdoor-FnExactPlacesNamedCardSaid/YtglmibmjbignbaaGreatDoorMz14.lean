/-
  The contracts of spec.l03Lower, spec.l03Find and spec.IsAlphabet.
-/
import Derived.Test.YtglmibmjbignbaaGreatDoorMz1
import Derived.Test.YtglmibmjbignbaaGreatDoorMz5
import Derived.Test.YtglmibmjbignbaaGreatDoorMz6
import Derived.Below
import Derived.Deep.Slices
import Derived.Deep.Fields
import Derived.ChangeSame
import Derived.Lib.SmallJoins
import Derived.Deep.AppendLies
import Derived.Laws.OwnMore
import Derived.WalkKit
import Derived.Test.YtglmibmjbignbaaGreatDoorChecked
import Derived.Laws.NewBlocks
import Derived.OwnWalk
import Derived.Deep.RegionHeld3
import Derived.Deep.DeepCutAuto
import Derived.Test.YtglmibmjbignbaaGreatDoorMz9
import Derived.IntWalk
import Derived.Deep.RegionWith
namespace Go.Proofs.YtglmibmjbignbaaGreatDoor
section
set_option linter.unusedVariables false
open Go.RowKit

set_option maxHeartbeats 400000 in
theorem cLower (s : ByteArray) (w : World) (hs : s.size ≤ maxLen) :
    Calls Tryz.prog 147 #[.string s, .int .i64 1, .int .i64 3] w fun e w' => e = .returned (.bool (letterB s)) ∧ w = w' := by
  unfold maxLen at hs
  go_enter Tryz.func147, Tryz.ntmps147
  go_wp2
  go_loop [7] (fun i => ∃ k : Nat, k ≤ s.size ∧ i = .int .i64 k ∧ Hid (lowAll (s.data.toList.take k) = true)) (fun i => s.size - (intOf i).toNat)
  case atStart => exact ⟨0, Nat.zero_le _, rfl, Lib.hid (lowAll_zero s)⟩
  case round =>
    obtain ⟨k, hk, rfl, HA⟩ := hrel
    by_cases hlt : k < s.size
    · go_wp2
      all_goals first
        | (have hno : (s[k].toNat : Int) < 97 ∨ (122 : Int) < (s[k].toNat : Int) := by first | assumption | omega
           go_ret
           exact ⟨ret_bool (letter_stop s k hlt (lowB_no _ hno)).symm, rfl⟩)
        | (go_round
           case rel => exact ⟨k + 1, by omega, by go_num, Lib.hid (lowAll_step s k hlt HA.out (lowB_yes _ (by omega) (by omega)))⟩
           case measure => simp [intOf]; omega)
    · go_wp2_with (go_at_call 83; refine (cIn_any _ _ _ _).mono ?_; rintro e w' ⟨rfl, rfl⟩)
      go_ret
      exact ⟨ret_bool (letter_sum s ((lowAll_end s k (by omega)).symm.trans HA.out)).symm, rfl⟩

theorem toList_beq (a b : ByteArray) : (a.toList == b.toList) = decide (a = b) := by
  by_cases h : a = b
  · simp [h]
  · rw [decide_eq_false h, beq_eq_false_iff_ne]
    intro e
    rw [ByteArray.toList_eq, ByteArray.toList_eq] at e
    exact h (ByteArray.ext (Array.toList_inj.1 e))
theorem take_snocL {xs : List ByteArray} {k : Nat} {x : ByteArray} (h : xs[k]? = some x) : xs.take (k + 1) = xs.take k ++ [x] := by
  have hk : k < xs.length := (List.getElem?_eq_some_iff.1 h).1
  have hx : xs[k] = x := (List.getElem?_eq_some_iff.1 h).2
  rw [List.take_succ_eq_append_getElem hk, hx]

end
section
set_option linter.unusedVariables false
open Go.RowKit

theorem bcell {W w1 : World} (hb : Below W.heap.size W w1) : (∀ b o, b < W.heap.size → w1.cell? ⟨b, o, none⟩ = W.cell? ⟨b, o, none⟩) ∧ (∀ b o, b < W.heap.size → w1.frozen? ⟨b, o, none⟩ = W.frozen? ⟨b, o, none⟩) :=
  ⟨fun b o h => hb.cell (p := ⟨b, o, none⟩) h, fun b o h => hb.frozen (p := ⟨b, o, none⟩) h⟩
theorem box_cell (w : World) (x y : Int) (t : TypeId) : (w.alloc (.cells #[.int .i64 x, .int .i64 y] t)).cell? ⟨w.heap.size, 0, none⟩ = some (.int .i64 x) ∧ (w.alloc (.cells #[.int .i64 x, .int .i64 y] t)).cell? ⟨w.heap.size, 1, none⟩ = some (.int .i64 y) :=
  ⟨by rw [World.cell?_alloc_at _ _ _ _ rfl]; rfl, by rw [World.cell?_alloc_at _ _ _ _ rfl]; rfl⟩

/-- The world with two spans in boxes. -/
def boxes (w : World) (x y u v : Int) : World := (w.alloc (.cells #[.int .i64 x, .int .i64 y] 26)).alloc (.cells #[.int .i64 u, .int .i64 v] 26)
def BoxAt (w : World) (B : Nat) (x y : Int) : Prop := B < w.heap.size ∧ w.cell? ⟨B, 0, none⟩ = some (.int .i64 x) ∧ w.cell? ⟨B, 1, none⟩ = some (.int .i64 y)
theorem BoxAt.below {w w' : World} {B : Nat} {x y : Int} (h : BoxAt w B x y) (hb : Below w.heap.size w w') : BoxAt w' B x y :=
  ⟨Nat.lt_of_lt_of_le h.1 hb.size, (hb.cell (p := ⟨B, 0, none⟩) h.1).trans h.2.1, (hb.cell (p := ⟨B, 1, none⟩) h.1).trans h.2.2⟩
theorem BoxAt.new (w : World) (x y : Int) (t : TypeId) : BoxAt (w.alloc (.cells #[.int .i64 x, .int .i64 y] t)) w.heap.size x y := ⟨by simp, (box_cell w x y t).1, (box_cell w x y t).2⟩
/-- A box that may be written. -/
def ResAt (w : World) (B : Nat) (x y : Int) : Prop := BoxAt w B x y ∧ w.frozen? ⟨B, 0, none⟩ = false ∧ w.frozen? ⟨B, 1, none⟩ = false
theorem ResAt.below {w w' : World} {B : Nat} {x y : Int} (h : ResAt w B x y) (hb : Below w.heap.size w w') : ResAt w' B x y :=
  ⟨h.1.below hb, (hb.frozen (p := ⟨B, 0, none⟩) h.1.1).trans h.2.1, (hb.frozen (p := ⟨B, 1, none⟩) h.1.1).trans h.2.2⟩
theorem ResAt.new (w : World) (x y : Int) (t : TypeId) : ResAt (w.alloc (.cells #[.int .i64 x, .int .i64 y] t)) w.heap.size x y :=
  ⟨BoxAt.new w x y t, by unfold World.frozen?; rw [heap_alloc_new]; simp, by unfold World.frozen?; rw [heap_alloc_new]; simp⟩
theorem below_alloc (w : World) (o : Obj) : Below w.heap.size w (w.alloc o) := (Below.refl _ _).alloc (Nat.le_refl _) _
theorem BoxAt.alloc {w : World} {B : Nat} {x y : Int} (h : BoxAt w B x y) (o : Obj) : BoxAt (w.alloc o) B x y := h.below (below_alloc w o)

def doV (x y u v : Int) : Value := if spB x y && spB u v then .tuple #[.bool (meetB x y u v), .int .i64 0] else .tuple #[.bool false, .int .i64 1]
theorem doV_ok {x y u v : Int} (h1 : spB x y = true) (h2 : spB u v = true) : doV x y u v = .tuple #[.bool (meetB x y u v), .int .i64 0] := by unfold doV; rw [h1, h2]; rfl
theorem doV_bad {x y u v : Int} (h : (spB x y && spB u v) = false) : doV x y u v = .tuple #[.bool false, .int .i64 1] := by unfold doV; rw [h]; rfl

def meetV (x y u v : Int) : Value := if spB x y && spB u v then (if meetB x y u v then .tuple #[.agg #[.int .i64 (max x u), .int .i64 (min y v)], .int .i64 0] else .tuple #[.agg #[.int .i64 0, .int .i64 0], .int .i64 4]) else .tuple #[.agg #[.int .i64 0, .int .i64 0], .int .i64 1]
theorem meetV_ok {x y u v : Int} (h1 : spB x y = true) (h2 : spB u v = true) (h3 : meetB x y u v = true) : meetV x y u v = .tuple #[.agg #[.int .i64 (max x u), .int .i64 (min y v)], .int .i64 0] := by unfold meetV; rw [h1, h2, h3]; rfl
theorem meetV_apart {x y u v : Int} (h1 : spB x y = true) (h2 : spB u v = true) (h3 : meetB x y u v = false) : meetV x y u v = .tuple #[.agg #[.int .i64 0, .int .i64 0], .int .i64 4] := by unfold meetV; rw [h1, h2, h3]; rfl
theorem meetV_bad {x y u v : Int} (h : (spB x y && spB u v) = false) : meetV x y u v = .tuple #[.agg #[.int .i64 0, .int .i64 0], .int .i64 1] := by unfold meetV; rw [h]; rfl
end
section
set_option linter.unusedVariables false
open Go.ChangeShapes Go.WideShapes Go.Deep Go.RowKit

/-- The slice at address A, of n elements, holds the spans xs; it lies below block B. -/
def SpanAt (w : World) (B : Nat) (A : Option Addr) (n : Nat) (xs : List Spn) : Prop :=
  xs.length = n ∧ ∀ (k : Nat) p, xs[k]? = some p → ∃ b o, A = some ⟨b, o, none⟩ ∧ b < B ∧ w.cell? ⟨b, o + k * 2, none⟩ = some (.int .i64 p.1) ∧ w.cell? ⟨b, o + k * 2 + 1, none⟩ = some (.int .i64 p.2)
theorem SpanAt.below {w w' : World} {B n : Nat} {A : Option Addr} {xs : List Spn} (h : SpanAt w B A n xs) (hb : Below B w w') : SpanAt w' B A n xs :=
  ⟨h.1, fun k p hp => by
    obtain ⟨b, o, hA, hlt, h1, h2⟩ := h.2 k p hp
    exact ⟨b, o, hA, hlt, (hb.cell (p := ⟨b, o + k * 2, none⟩) hlt).trans h1, (hb.cell (p := ⟨b, o + k * 2 + 1, none⟩) hlt).trans h2⟩⟩
theorem SpanAt.more {w : World} {B B' n : Nat} {A : Option Addr} {xs : List Spn} (h : SpanAt w B A n xs) (hB : B ≤ B') : SpanAt w B' A n xs :=
  ⟨h.1, fun k p hp => by
    obtain ⟨b, o, hA, hlt, h1, h2⟩ := h.2 k p hp
    exact ⟨b, o, hA, by omega, h1, h2⟩⟩
theorem SpanAt.nil (w : World) (B : Nat) (A : Option Addr) : SpanAt w B A 0 [] := ⟨rfl, fun k p h => by simp at h⟩
theorem add_plain2 (b o i : Nat) : (⟨b, o, none⟩ : Addr).add i = ⟨b, o + i, none⟩ := by
  unfold Addr.add
  split
  · rename_i h; simp_all
  · rfl
theorem SpanAt.own {w : World} {A : Option Addr} {n c base : Nat} {xs : List Spn} {t : TypeId} (h : w.ownsRow base t 2 (.slice A n c) n (spanV xs)) : SpanAt w w.heap.size A n xs := by
  have hl : xs.length = n := by have := h.1; rw [spanV_len] at this; omega
  refine ⟨hl, fun k p hp => ?_⟩
  have hk := (List.getElem?_eq_some_iff.1 hp).1
  obtain ⟨g, cap, hv, _, hlt⟩ := h.form (by omega)
  have hA : A = some ⟨g, 0, none⟩ := by injection hv
  subst hA
  have hc := spanV_at xs k p hp
  have h1 := h.cells (g := g) rfl _ _ hc.1
  have h2 := h.cells (g := g) rfl _ _ hc.2
  refine ⟨g, 0, rfl, hlt, ?_, ?_⟩
  · rw [← h1, add_plain2]
  · rw [← h2, add_plain2, Nat.zero_add, Nat.zero_add]
theorem _root_.Go.World.ownsRow.own_ {w : World} {A : Option Addr} {n c base : Nat} {xs : List Spn} {t : TypeId} (h : w.ownsRow base t 2 (.slice A n c) n (spanV xs)) : SpanAt w w.heap.size A n xs := SpanAt.own h
theorem exists_list {α : Type} {Q : Nat → α → Prop} : ∀ (n : Nat), (∀ i, i < n → ∃ p, Q i p) → ∃ l : List α, l.length = n ∧ ∀ (i : Nat) p, l[i]? = some p → Q i p
  | 0, _ => ⟨[], rfl, fun i p h => by simp at h⟩
  | n + 1, h => by
    obtain ⟨l, hl, hq⟩ := exists_list n (fun i hi => h i (by omega))
    obtain ⟨p, hp⟩ := h n (by omega)
    refine ⟨l ++ [p], by simp [hl], fun i q hi => ?_⟩
    by_cases hlt : i < n
    · rw [List.getElem?_append_left (by omega)] at hi; exact hq i q hi
    · rw [List.getElem?_append_right (by omega)] at hi
      have hil := (List.getElem?_eq_some_iff.1 hi).1
      simp at hil
      have hin : i = n := by omega
      subst hin
      rw [hl, Nat.sub_self] at hi
      obtain rfl : p = q := by simpa using hi
      exact hp
section
variable {H : Type} {enc : TypeId × Value → H} {w : World} {base : Nat} {spare : Nat → Bool} {held : Bool}
set_option maxRecDepth 100000 in
theorem openSpan {r : Reach} {b0 : Nat} {v : Value} {d : DataW H} {p : List MemPlace} (hv : Value.okWide Tryz.prog w r b0 122 v) (h : DataW.Trod enc Tryz.prog w base spare held 122 v d p) :
    ∃ x y : Int, v = .agg #[.int .i64 x, .int .i64 y] ∧ (Lit.int .i64 x).wf = true ∧ (Lit.int .i64 y).wf = true := by
  obtain ⟨v0, v1, y0, y1, n, rfl, _, _, h0, h1⟩ := Joins.open_agg2 Tryz.underlying122 (by kernel_rfl) (by kernel_rfl) hv h
  obtain ⟨x, hx, _, wx⟩ := DataW.trod_int Tryz.underlying2 h0
  obtain ⟨y, hy, _, wy⟩ := DataW.trod_int Tryz.underlying2 h1
  injection hx with hx _
  injection hy with hy _
  subst hx; subst hy
  exact ⟨x, y, rfl, wx, wy⟩

end
end
section
set_option linter.unusedVariables false
open Go.RowKit

theorem info_span : (Tryz.prog.info? 26).map (fun i => (i.zero, i.size, i.bytes)) = some (some (.agg #[.int .i64 0, .int .i64 0]), 2, 16) := by kernel_rfl
def copySp (xs : List Spn) (n k : Nat) : List Value := spanV (xs.take k) ++ List.replicate ((n - k) * 2) (.int .i64 0)
theorem copySp_zero (xs : List Spn) (n : Nat) : (madeCells #[Value.int .i64 0, Value.int .i64 0] (n * 2)).toList = copySp xs n 0 := by
  apply List.ext_getElem?
  intro j
  by_cases h : j < n * 2
  · have h2 : j % 2 = 0 ∨ j % 2 = 1 := by omega
    rcases h2 with h2 | h2 <;> simp [madeCells, copySp, spanV, h, h2]
  · rw [List.getElem?_eq_none (by simp [madeCells]; omega), List.getElem?_eq_none (by simp [copySp, spanV]; omega)]
theorem copySp_step (xs : List Spn) (n k : Nat) (p : Spn) (hn : xs.length = n) (h : xs[k]? = some p) : ((copySp xs n k).set (k * 2) (.int .i64 p.1)).set (k * 2 + 1) (.int .i64 p.2) = copySp xs n (k + 1) := by
  have hl := (List.getElem?_eq_some_iff.1 h).1
  have he : xs[k] = p := (List.getElem?_eq_some_iff.1 h).2
  have hs : (spanV (xs.take k)).length = k * 2 := by rw [spanV_len, List.length_take]; omega
  unfold copySp
  rw [List.set_append_right _ _ (by omega), List.set_append_right _ _ (by omega), List.take_succ_eq_append_getElem hl, he, spanV_app, spanV_one, hs, Nat.sub_self, List.append_assoc]
  congr 1
  obtain ⟨d, hd⟩ : ∃ d, n - k = d + 1 := ⟨n - k - 1, by omega⟩
  rw [hd, show n - (k + 1) = d by omega, show (d + 1) * 2 = d * 2 + 1 + 1 by omega, List.replicate_succ, List.replicate_succ, show k * 2 + 1 - k * 2 = 1 by omega]
  rfl
theorem copySp_all (xs : List Spn) (n : Nat) (hn : xs.length = n) : copySp xs n n = spanV xs := by
  unfold copySp; rw [List.take_of_length_le (by omega), Nat.sub_self]; simp

theorem below_set2' {B : Nat} {w w' : World} (h : Below B w w') {g : Nat} (hg : B ≤ g) (i j : Nat) (x y : Value) : Below B w ((w'.setCell ⟨g, i, none⟩ x).setCell ⟨g, j, none⟩ y) := (h.setCell hg x).setCell hg y
theorem keep_cells {W W' : World} {b c p q : Nat} {x y u v : Value} (h : W.cell? ⟨b, p, none⟩ = some x ∧ W.cell? ⟨b, p + 1, none⟩ = some y ∧ W.cell? ⟨c, q, none⟩ = some u ∧ W.cell? ⟨c, q + 1, none⟩ = some v ∧ b < W.heap.size ∧ c < W.heap.size) (hb : Below W.heap.size W W') :
    W'.cell? ⟨b, p, none⟩ = some x ∧ W'.cell? ⟨b, p + 1, none⟩ = some y ∧ W'.cell? ⟨c, q, none⟩ = some u ∧ W'.cell? ⟨c, q + 1, none⟩ = some v ∧ b < W'.heap.size ∧ c < W'.heap.size := by
  obtain ⟨h0, h1, h2, h3, l1, l2⟩ := h
  exact ⟨(hb.cell (p := ⟨b, p, none⟩) l1).trans h0, (hb.cell (p := ⟨b, p + 1, none⟩) l1).trans h1, (hb.cell (p := ⟨c, q, none⟩) l2).trans h2, (hb.cell (p := ⟨c, q + 1, none⟩) l2).trans h3, Nat.lt_of_lt_of_le l1 hb.size, Nat.lt_of_lt_of_le l2 hb.size⟩
theorem cEqSpan (x y : Int) (w : World) :
    Calls Tryz.prog 151 #[.agg #[.int .i64 x, .int .i64 y], .agg #[.int .i64 x, .int .i64 y]] w fun e w' => e = .returned (.bool true) ∧ Below w.heap.size w w' := by
  have hx : (x != x) = false := by simp
  have hy : (y != y) = false := by simp
  go_enter Tryz.func151, Tryz.ntmps151
  go_wp2
  go_ret
  exact ⟨rfl, ((Below.refl _ _).alloc (Nat.le_refl _) _).alloc (by simp) _⟩

end
section
set_option linter.unusedVariables false
open Go.RowKit

theorem keep_three {W W' : World} {B b q : Nat} {x y v : Value} (h : W.cell? ⟨B, 0, none⟩ = some x ∧ W.cell? ⟨B, 1, none⟩ = some y ∧ W.cell? ⟨b, q, none⟩ = some v ∧ B < W.heap.size ∧ b < W.heap.size) (hb : Below W.heap.size W W') :
    W'.cell? ⟨B, 0, none⟩ = some x ∧ W'.cell? ⟨B, 1, none⟩ = some y ∧ W'.cell? ⟨b, q, none⟩ = some v ∧ B < W'.heap.size ∧ b < W'.heap.size := by
  obtain ⟨h0, h1, h2, l1, l2⟩ := h
  exact ⟨(hb.cell (p := ⟨B, 0, none⟩) l1).trans h0, (hb.cell (p := ⟨B, 1, none⟩) l1).trans h1, (hb.cell (p := ⟨b, q, none⟩) l2).trans h2, Nat.lt_of_lt_of_le l1 hb.size, Nat.lt_of_lt_of_le l2 hb.size⟩

end
section
set_option linter.unusedVariables false
open Go.RowKit

def cntS : List Spn → Int
  | [] => 0
  | p :: xs => p.2 - p.1 + 1 + cntS xs
theorem cntS_app (xs ys : List Spn) : cntS (xs ++ ys) = cntS xs + cntS ys := by
  induction xs with
  | nil => simp [cntS]
  | cons p xs ih => rw [List.cons_append, cntS, cntS, ih]; omega
theorem cntS_step {xs : List Spn} {k : Nat} {p : Spn} (h : xs[k]? = some p) : cntS (xs.take (k + 1)) = cntS (xs.take k) + (p.2 - p.1 + 1) := by
  have hl := (List.getElem?_eq_some_iff.1 h).1
  have he : xs[k] = p := (List.getElem?_eq_some_iff.1 h).2
  rw [List.take_succ_eq_append_getElem hl, he, cntS_app]; simp [cntS]
theorem cntS_bd {xs : List Spn} (h : ∀ p ∈ xs, spB p.1 p.2 = true) : 0 ≤ cntS xs ∧ cntS xs ≤ xs.length * 6001 := by
  induction xs with
  | nil => simp [cntS]
  | cons p xs ih =>
    have h1 := spB_bd (h p List.mem_cons_self)
    have h2 := ih (fun q hq => h q (List.mem_cons_of_mem _ hq))
    rw [cntS, List.length_cons]; omega
theorem years_mem {xs : List Spn} (h : yearsB xs = true) : ∀ p ∈ xs, spB p.1 p.2 = true := by
  intro p hp
  obtain ⟨k, hk, he⟩ := List.mem_iff_getElem.1 hp
  exact chainB_sp (yearsB_yes h).2 hk (by rw [← he]; exact List.getElem?_eq_getElem hk)
theorem cnt_take_bd {xs : List Spn} (h : yearsB xs = true) (k : Nat) : 0 ≤ cntS (xs.take k) ∧ cntS (xs.take k) ≤ 72012 := by
  have h1 := cntS_bd (xs := xs.take k) (fun p hp => years_mem h p (List.mem_of_mem_take hp))
  have h2 := (yearsB_yes h).1
  have h3 : (xs.take k).length ≤ 12 := by rw [List.length_take]; omega
  omega

def cntV (xs : List Spn) : Value := if yearsB xs then .tuple #[.int .i64 (cntS xs), .int .i64 0] else .tuple #[.int .i64 0, .int .i64 1]
theorem cntV_ok {xs : List Spn} (h : yearsB xs = true) : cntV xs = .tuple #[.int .i64 (cntS xs), .int .i64 0] := by unfold cntV; rw [if_pos h]
theorem cntV_bad {xs : List Spn} (h : yearsB xs = false) : cntV xs = .tuple #[.int .i64 0, .int .i64 1] := by unfold cntV; rw [if_neg (by simp [h])]

end
end Go.Proofs.YtglmibmjbignbaaGreatDoor
