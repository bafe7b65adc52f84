/-
  The contracts of spec.l03Lower, spec.l03Find and spec.IsAlphabet.
-/
import Derived.Test.YtglmibmjbignbaaGreatDoorMy1
import Derived.Test.YtglmibmjbignbaaGreatDoorMy4
import Derived.Test.YtglmibmjbignbaaGreatDoorMy2
import Derived.Below
import Derived.Deep.Slices
import Derived.Deep.Fields
import Derived.ChangeSame
import Derived.Lib.SmallJoins
import Derived.Deep.AppendLies
import Derived.Laws.OwnMore
import Derived.WalkKit
import Derived.Test.YtglmibmjbignbaaGreatDoorChecked
import Derived.Test.YtglmibmjbignbaaGreatDoorMy3
import Derived.Laws.NewBlocks
import Derived.OwnWalk
import Derived.Deep.RegionHeld3
import Derived.Deep.DeepCutAuto
import Derived.BigQuiet
import Derived.Deep.QuietTactic
import Derived.IntWalk
import Derived.Deep.RegionWith
import Derived.Laws.StructEq
import Derived.Test.YtglmibmjbignbaaGreatDoorNmMath
import Derived.Test.YtglmibmjbignbaaGreatDoorMy8
namespace Go.Proofs.YtglmibmjbignbaaGreatDoor
section
set_option linter.unusedVariables false
open Go.RowKit

set_option maxHeartbeats 400000 in
theorem cLower (s : ByteArray) (w : World) (hs : s.size ≤ maxLen) :
    Calls Tryz.prog 147 #[.string s, .int .i64 1, .int .i64 3] w fun e w' => e = .returned (.bool (letterB s)) ∧ w = w' := by
  unfold maxLen at hs
  go_enter Tryz.func147, Tryz.ntmps147
  go_wp2
  go_loop [7] (fun i => ∃ k : Nat, k ≤ s.size ∧ i = .int .i64 k ∧ Hid (lowAll (s.data.toList.take k) = true)) (fun i => s.size - (intOf i).toNat)
  case atStart => exact ⟨0, Nat.zero_le _, rfl, Lib.hid (lowAll_zero s)⟩
  case round =>
    obtain ⟨k, hk, rfl, HA⟩ := hrel
    by_cases hlt : k < s.size
    · go_wp2
      all_goals first
        | (have hno : (s[k].toNat : Int) < 97 ∨ (122 : Int) < (s[k].toNat : Int) := by first | assumption | omega
           go_ret
           exact ⟨ret_bool (letter_stop s k hlt (lowB_no _ hno)).symm, rfl⟩)
        | (go_round
           case rel => exact ⟨k + 1, by omega, by go_num, Lib.hid (lowAll_step s k hlt HA.out (lowB_yes _ (by omega) (by omega)))⟩
           case measure => simp [intOf]; omega)
    · go_wp2_with (go_at_call 83; refine (cIn_any _ _ _ _).mono ?_; rintro e w' ⟨rfl, rfl⟩)
      go_ret
      exact ⟨ret_bool (letter_sum s ((lowAll_end s k (by omega)).symm.trans HA.out)).symm, rfl⟩

theorem toList_beq (a b : ByteArray) : (a.toList == b.toList) = decide (a = b) := by
  by_cases h : a = b
  · simp [h]
  · rw [decide_eq_false h, beq_eq_false_iff_ne]
    intro e
    rw [ByteArray.toList_eq, ByteArray.toList_eq] at e
    exact h (ByteArray.ext (Array.toList_inj.1 e))
theorem take_snocL {xs : List ByteArray} {k : Nat} {x : ByteArray} (h : xs[k]? = some x) : xs.take (k + 1) = xs.take k ++ [x] := by
  have hk : k < xs.length := (List.getElem?_eq_some_iff.1 h).1
  have hx : xs[k] = x := (List.getElem?_eq_some_iff.1 h).2
  rw [List.take_succ_eq_append_getElem hk, hx]

end
section
set_option linter.unusedVariables false
open Go.ChangeShapes Go.WideShapes Go.Deep Go.RowKit

/-- The slice at address A, of n elements, holds the spans xs; it lies below block B. -/
def SpanAt (w : World) (B : Nat) (A : Option Addr) (n : Nat) (xs : List Spn) : Prop :=
  xs.length = n ∧ ∀ (k : Nat) p, xs[k]? = some p → ∃ b o, A = some ⟨b, o, none⟩ ∧ b < B ∧ w.cell? ⟨b, o + k * 2, none⟩ = some (.int .i64 p.1) ∧ w.cell? ⟨b, o + k * 2 + 1, none⟩ = some (.int .i64 p.2)
theorem SpanAt.below {w w' : World} {B n : Nat} {A : Option Addr} {xs : List Spn} (h : SpanAt w B A n xs) (hb : Below B w w') : SpanAt w' B A n xs :=
  ⟨h.1, fun k p hp => by
    obtain ⟨b, o, hA, hlt, h1, h2⟩ := h.2 k p hp
    exact ⟨b, o, hA, hlt, (hb.cell (p := ⟨b, o + k * 2, none⟩) hlt).trans h1, (hb.cell (p := ⟨b, o + k * 2 + 1, none⟩) hlt).trans h2⟩⟩
theorem SpanAt.more {w : World} {B B' n : Nat} {A : Option Addr} {xs : List Spn} (h : SpanAt w B A n xs) (hB : B ≤ B') : SpanAt w B' A n xs :=
  ⟨h.1, fun k p hp => by
    obtain ⟨b, o, hA, hlt, h1, h2⟩ := h.2 k p hp
    exact ⟨b, o, hA, by omega, h1, h2⟩⟩
theorem SpanAt.nil (w : World) (B : Nat) (A : Option Addr) : SpanAt w B A 0 [] := ⟨rfl, fun k p h => by simp at h⟩
theorem add_plain2 (b o i : Nat) : (⟨b, o, none⟩ : Addr).add i = ⟨b, o + i, none⟩ := by
  unfold Addr.add
  split
  · rename_i h; simp_all
  · rfl
theorem SpanAt.own {w : World} {A : Option Addr} {n c base : Nat} {xs : List Spn} {t : TypeId} (h : w.ownsRow base t 2 (.slice A n c) n (spanV xs)) : SpanAt w w.heap.size A n xs := by
  have hl : xs.length = n := by have := h.1; rw [spanV_len] at this; omega
  refine ⟨hl, fun k p hp => ?_⟩
  have hk := (List.getElem?_eq_some_iff.1 hp).1
  obtain ⟨g, cap, hv, _, hlt⟩ := h.form (by omega)
  have hA : A = some ⟨g, 0, none⟩ := by injection hv
  subst hA
  have hc := spanV_at xs k p hp
  have h1 := h.cells (g := g) rfl _ _ hc.1
  have h2 := h.cells (g := g) rfl _ _ hc.2
  refine ⟨g, 0, rfl, hlt, ?_, ?_⟩
  · rw [← h1, add_plain2]
  · rw [← h2, add_plain2, Nat.zero_add, Nat.zero_add]
theorem _root_.Go.World.ownsRow.own_ {w : World} {A : Option Addr} {n c base : Nat} {xs : List Spn} {t : TypeId} (h : w.ownsRow base t 2 (.slice A n c) n (spanV xs)) : SpanAt w w.heap.size A n xs := SpanAt.own h
theorem exists_list {α : Type} {Q : Nat → α → Prop} : ∀ (n : Nat), (∀ i, i < n → ∃ p, Q i p) → ∃ l : List α, l.length = n ∧ ∀ (i : Nat) p, l[i]? = some p → Q i p
  | 0, _ => ⟨[], rfl, fun i p h => by simp at h⟩
  | n + 1, h => by
    obtain ⟨l, hl, hq⟩ := exists_list n (fun i hi => h i (by omega))
    obtain ⟨p, hp⟩ := h n (by omega)
    refine ⟨l ++ [p], by simp [hl], fun i q hi => ?_⟩
    by_cases hlt : i < n
    · rw [List.getElem?_append_left (by omega)] at hi; exact hq i q hi
    · rw [List.getElem?_append_right (by omega)] at hi
      have hil := (List.getElem?_eq_some_iff.1 hi).1
      simp at hil
      have hin : i = n := by omega
      subst hin
      rw [hl, Nat.sub_self] at hi
      obtain rfl : p = q := by simpa using hi
      exact hp
section
variable {H : Type} {enc : TypeId × Value → H} {w : World} {base : Nat} {spare : Nat → Bool} {held : Bool}
set_option maxRecDepth 100000 in
theorem openSpan {r : Reach} {b0 : Nat} {v : Value} {d : DataW H} {p : List MemPlace} (hv : Value.okWide Tryz.prog w r b0 122 v) (h : DataW.Trod enc Tryz.prog w base spare held 122 v d p) :
    ∃ x y : Int, v = .agg #[.int .i64 x, .int .i64 y] ∧ (Lit.int .i64 x).wf = true ∧ (Lit.int .i64 y).wf = true := by
  obtain ⟨v0, v1, y0, y1, n, rfl, _, _, h0, h1⟩ := Joins.open_agg2 Tryz.underlying122 (by kernel_rfl) (by kernel_rfl) hv h
  obtain ⟨x, hx, _, wx⟩ := DataW.trod_int Tryz.underlying2 h0
  obtain ⟨y, hy, _, wy⟩ := DataW.trod_int Tryz.underlying2 h1
  injection hx with hx _
  injection hy with hy _
  subst hx; subst hy
  exact ⟨x, y, rfl, wx, wy⟩

end
end
section
set_option linter.unusedVariables false
open Go.RowKit

theorem info_span : (Tryz.prog.info? 26).map (fun i => (i.zero, i.size, i.bytes)) = some (some (.agg #[.int .i64 0, .int .i64 0]), 2, 16) := by kernel_rfl
def copySp (xs : List Spn) (n k : Nat) : List Value := spanV (xs.take k) ++ List.replicate ((n - k) * 2) (.int .i64 0)
theorem copySp_zero (xs : List Spn) (n : Nat) : (madeCells #[Value.int .i64 0, Value.int .i64 0] (n * 2)).toList = copySp xs n 0 := by
  apply List.ext_getElem?
  intro j
  by_cases h : j < n * 2
  · have h2 : j % 2 = 0 ∨ j % 2 = 1 := by omega
    rcases h2 with h2 | h2 <;> simp [madeCells, copySp, spanV, h, h2]
  · rw [List.getElem?_eq_none (by simp [madeCells]; omega), List.getElem?_eq_none (by simp [copySp, spanV]; omega)]
theorem copySp_step (xs : List Spn) (n k : Nat) (p : Spn) (hn : xs.length = n) (h : xs[k]? = some p) : ((copySp xs n k).set (k * 2) (.int .i64 p.1)).set (k * 2 + 1) (.int .i64 p.2) = copySp xs n (k + 1) := by
  have hl := (List.getElem?_eq_some_iff.1 h).1
  have he : xs[k] = p := (List.getElem?_eq_some_iff.1 h).2
  have hs : (spanV (xs.take k)).length = k * 2 := by rw [spanV_len, List.length_take]; omega
  unfold copySp
  rw [List.set_append_right _ _ (by omega), List.set_append_right _ _ (by omega), List.take_succ_eq_append_getElem hl, he, spanV_app, spanV_one, hs, Nat.sub_self, List.append_assoc]
  congr 1
  obtain ⟨d, hd⟩ : ∃ d, n - k = d + 1 := ⟨n - k - 1, by omega⟩
  rw [hd, show n - (k + 1) = d by omega, show (d + 1) * 2 = d * 2 + 1 + 1 by omega, List.replicate_succ, List.replicate_succ, show k * 2 + 1 - k * 2 = 1 by omega]
  rfl
theorem copySp_all (xs : List Spn) (n : Nat) (hn : xs.length = n) : copySp xs n n = spanV xs := by
  unfold copySp; rw [List.take_of_length_le (by omega), Nat.sub_self]; simp

theorem below_set2' {B : Nat} {w w' : World} (h : Below B w w') {g : Nat} (hg : B ≤ g) (i j : Nat) (x y : Value) : Below B w ((w'.setCell ⟨g, i, none⟩ x).setCell ⟨g, j, none⟩ y) := (h.setCell hg x).setCell hg y
theorem keep_cells {W W' : World} {b c p q : Nat} {x y u v : Value} (h : W.cell? ⟨b, p, none⟩ = some x ∧ W.cell? ⟨b, p + 1, none⟩ = some y ∧ W.cell? ⟨c, q, none⟩ = some u ∧ W.cell? ⟨c, q + 1, none⟩ = some v ∧ b < W.heap.size ∧ c < W.heap.size) (hb : Below W.heap.size W W') :
    W'.cell? ⟨b, p, none⟩ = some x ∧ W'.cell? ⟨b, p + 1, none⟩ = some y ∧ W'.cell? ⟨c, q, none⟩ = some u ∧ W'.cell? ⟨c, q + 1, none⟩ = some v ∧ b < W'.heap.size ∧ c < W'.heap.size := by
  obtain ⟨h0, h1, h2, h3, l1, l2⟩ := h
  exact ⟨(hb.cell (p := ⟨b, p, none⟩) l1).trans h0, (hb.cell (p := ⟨b, p + 1, none⟩) l1).trans h1, (hb.cell (p := ⟨c, q, none⟩) l2).trans h2, (hb.cell (p := ⟨c, q + 1, none⟩) l2).trans h3, Nat.lt_of_lt_of_le l1 hb.size, Nat.lt_of_lt_of_le l2 hb.size⟩
theorem cEqSpan (x y : Int) (w : World) :
    Calls Tryz.prog 151 #[.agg #[.int .i64 x, .int .i64 y], .agg #[.int .i64 x, .int .i64 y]] w fun e w' => e = .returned (.bool true) ∧ Below w.heap.size w w' := by
  have hx : (x != x) = false := by simp
  have hy : (y != y) = false := by simp
  go_enter Tryz.func151, Tryz.ntmps151
  go_wp2
  go_ret
  exact ⟨rfl, ((Below.refl _ _).alloc (Nat.le_refl _) _).alloc (by simp) _⟩

end
section
set_option linter.unusedVariables false
open Go.RowKit

theorem wp_region_class {P : Program} {id : Nat} {Q : Exit → Act → World → Prop} {a : Act} {w : World} {l : List Oper} {T : Type} (f : T → World) (t0 : T) (h0 : f t0 = w.drewN 1) (hm : P.follows .mixedOrders = true) (hB : Region.lexB .any l.toArray = true)
    (h : wpQuiet P l.toArray (fun w' => ∃ t, w' = f t) (fun a' => ∀ w', (∃ t, w' = f t) → Q .normal a' w') l a) : (Code.region id l.toArray true).wp P Q a w :=
  wp_region_quiet (C := fun w' => ∃ t, w' = f t) hm hB ⟨t0, h0.symm⟩ (by simpa using h)

/-- All worlds above W, by a letter. -/
theorem class_of (W : World) : ∃ (T : Type) (f : T → World) (t0 : T), Nonempty T ∧ f t0 = W.drewN 1 ∧ (∀ t, Below W.heap.size W (f t)) ∧ ∀ w', Below W.heap.size W w' → ∃ t, w' = f t :=
  ⟨{ w' : World // Below W.heap.size W w' }, Subtype.val, ⟨W.drewN 1, rfl, rfl, rfl, Nat.le_refl _, fun _ _ => rfl⟩, ⟨⟨W, Below.refl _ _⟩⟩, rfl, fun t => t.2, fun w' h => ⟨⟨w', h⟩, rfl⟩⟩

theorem Calls.class_of {P : Program} {g : FuncId} {args : Array Value} {v : Value} {T : Type} {f : T → World} {W : World} (hf : ∀ t, Below W.heap.size W (f t)) (hb : ∀ w', Below W.heap.size W w' → ∃ t, w' = f t) {t : T}
    (h : Calls P g args (f t) fun e w' => e = .returned v ∧ Below (f t).heap.size (f t) w') : Calls P g args (f t) fun e w' => e = .returned v ∧ ∃ t', w' = f t' :=
  h.mono fun _ _ ⟨he, hw⟩ => ⟨he, hb _ ((hf t).trans (hw.mono (hf t).size))⟩
theorem Calls.class_same {P : Program} {g : FuncId} {args : Array Value} {v : Value} {T : Type} {f : T → World} {t : T}
    (h : Calls P g args (f t) fun e w' => e = .returned v ∧ f t = w') : Calls P g args (f t) fun e w' => e = .returned v ∧ ∃ t', w' = f t' :=
  h.mono fun _ _ ⟨he, hw⟩ => ⟨he, t, hw.symm⟩
end
section
set_option linter.unusedVariables false
open Go.RowKit

theorem keep_three {W W' : World} {B b q : Nat} {x y v : Value} (h : W.cell? ⟨B, 0, none⟩ = some x ∧ W.cell? ⟨B, 1, none⟩ = some y ∧ W.cell? ⟨b, q, none⟩ = some v ∧ B < W.heap.size ∧ b < W.heap.size) (hb : Below W.heap.size W W') :
    W'.cell? ⟨B, 0, none⟩ = some x ∧ W'.cell? ⟨B, 1, none⟩ = some y ∧ W'.cell? ⟨b, q, none⟩ = some v ∧ B < W'.heap.size ∧ b < W'.heap.size := by
  obtain ⟨h0, h1, h2, l1, l2⟩ := h
  exact ⟨(hb.cell (p := ⟨B, 0, none⟩) l1).trans h0, (hb.cell (p := ⟨B, 1, none⟩) l1).trans h1, (hb.cell (p := ⟨b, q, none⟩) l2).trans h2, Nat.lt_of_lt_of_le l1 hb.size, Nat.lt_of_lt_of_le l2 hb.size⟩

end
section
set_option linter.unusedVariables false
open Go.RowKit

def cntS : List Spn → Int
  | [] => 0
  | p :: xs => p.2 - p.1 + 1 + cntS xs
theorem cntS_app (xs ys : List Spn) : cntS (xs ++ ys) = cntS xs + cntS ys := by
  induction xs with
  | nil => simp [cntS]
  | cons p xs ih => rw [List.cons_append, cntS, cntS, ih]; omega
theorem cntS_step {xs : List Spn} {k : Nat} {p : Spn} (h : xs[k]? = some p) : cntS (xs.take (k + 1)) = cntS (xs.take k) + (p.2 - p.1 + 1) := by
  have hl := (List.getElem?_eq_some_iff.1 h).1
  have he : xs[k] = p := (List.getElem?_eq_some_iff.1 h).2
  rw [List.take_succ_eq_append_getElem hl, he, cntS_app]; simp [cntS]
theorem cntS_bd {xs : List Spn} (h : ∀ p ∈ xs, spB p.1 p.2 = true) : 0 ≤ cntS xs ∧ cntS xs ≤ xs.length * 6001 := by
  induction xs with
  | nil => simp [cntS]
  | cons p xs ih =>
    have h1 := spB_bd (h p List.mem_cons_self)
    have h2 := ih (fun q hq => h q (List.mem_cons_of_mem _ hq))
    rw [cntS, List.length_cons]; omega
theorem years_mem {xs : List Spn} (h : yearsB xs = true) : ∀ p ∈ xs, spB p.1 p.2 = true := by
  intro p hp
  obtain ⟨k, hk, he⟩ := List.mem_iff_getElem.1 hp
  exact chainB_sp (yearsB_yes h).2 hk (by rw [← he]; exact List.getElem?_eq_getElem hk)
theorem cnt_take_bd {xs : List Spn} (h : yearsB xs = true) (k : Nat) : 0 ≤ cntS (xs.take k) ∧ cntS (xs.take k) ≤ 72012 := by
  have h1 := cntS_bd (xs := xs.take k) (fun p hp => years_mem h p (List.mem_of_mem_take hp))
  have h2 := (yearsB_yes h).1
  have h3 : (xs.take k).length ≤ 12 := by rw [List.length_take]; omega
  omega

def cntV (xs : List Spn) : Value := if yearsB xs then .tuple #[.int .i64 (cntS xs), .int .i64 0] else .tuple #[.int .i64 0, .int .i64 1]
theorem cntV_ok {xs : List Spn} (h : yearsB xs = true) : cntV xs = .tuple #[.int .i64 (cntS xs), .int .i64 0] := by unfold cntV; rw [if_pos h]
theorem cntV_bad {xs : List Spn} (h : yearsB xs = false) : cntV xs = .tuple #[.int .i64 0, .int .i64 1] := by unfold cntV; rw [if_neg (by simp [h])]

end
section
set_option linter.unusedVariables false
open Go.RowKit

def inB (x y z : Int) : Bool := decide (x ≤ z) && decide (z ≤ y)
def hasB (xs : List Spn) (z : Int) : Bool := xs.any fun p => inB p.1 p.2 z
theorem hasB_step {xs : List Spn} {k : Nat} {p : Spn} {z : Int} (h : xs[k]? = some p) (ha : hasB (xs.take k) z = false) (hc : inB p.1 p.2 z = false) : hasB (xs.take (k + 1)) z = false := by
  have hl := (List.getElem?_eq_some_iff.1 h).1
  have he : xs[k] = p := (List.getElem?_eq_some_iff.1 h).2
  rw [List.take_succ_eq_append_getElem hl, he]; unfold hasB at *; rw [List.any_append, ha]; simp [hc]
theorem hasB_hit {xs : List Spn} {k : Nat} {p : Spn} {z : Int} (h : xs[k]? = some p) (hc : inB p.1 p.2 z = true) : hasB xs z = true := by
  unfold hasB; rw [List.any_eq_true]; exact ⟨p, List.mem_of_getElem? h, hc⟩
theorem inB_mem {xs : List Spn} {z : Int} : hasB xs z = true ↔ memS z xs := by
  unfold hasB memS inB; rw [List.any_eq_true]
  constructor
  · rintro ⟨p, hp, h⟩; simp at h; exact ⟨p, hp, h⟩
  · rintro ⟨p, hp, h⟩; exact ⟨p, hp, by simp; exact h⟩

theorem len2 {α : Type} {l : List α} (h : l.length = 2) : ∃ a b, l = [a, b] := by
  match l, h with
  | [a, b], _ => exact ⟨a, b, rfl⟩
theorem fields_span : ((Tryz.prog).fieldsOf 26).toList.map (fun f => (f.name == "_", f.type, f.offset)) = [(false, 2, 0), (false, 2, 1)] := by kernel_rfl
theorem under_span : (Tryz.prog).underlying 26 = some (.struct ((Tryz.prog).fieldsOf 26)) := by kernel_rfl
theorem stood_span : (Tryz.prog).stoodInHeld 26 = false := by kernel_rfl
theorem guard_span : (Tryz.prog).eqGuardType (Tryz.prog).depth 26 = false := by kernel_rfl
theorem run_eqSp (a b c d : Int) (W : World) : (binOp .eql 26 (.agg #[.int .i64 a, .int .i64 b]) (.agg #[.int .i64 c, .int .i64 d])).run Tryz.prog W = .ok (.bool (a == c && b == d)) W := by
  rw [run_eql_struct, run_equalIn_agg W 9999 _ _ _ under_span stood_span]
  obtain ⟨f0, f1, hf, h0, h1⟩ : ∃ f0 f1 : Field, ((Tryz.prog).fieldsOf 26).toList = [f0, f1] ∧ ((f0.name == "_") = false ∧ f0.type = 2 ∧ f0.offset = 0) ∧ (f1.name == "_") = false ∧ f1.type = 2 ∧ f1.offset = 1 := by
    have h := fields_span
    generalize ((Tryz.prog).fieldsOf 26).toList = l at h
    obtain ⟨f0, f1, rfl⟩ := len2 (by simpa using congrArg List.length h)
    simp only [List.map_cons, List.map_nil, List.cons.injEq, Prod.mk.injEq, and_true] at h
    exact ⟨f0, f1, rfl, h.1, h.2⟩
  obtain ⟨n0, t0, o0⟩ := h0
  obtain ⟨n1, t1, o1⟩ := h1
  rw [hf]
  have n0' : f0.name ≠ "_" := by simpa using n0
  have n1' : f1.name ≠ "_" := by simpa using n1
  have hi := Tryz.underlying2
  simp [Op.eqFields, n0', n1', t0, o0, t1, o1, go_sem, hi]
  by_cases h1 : a = c <;> by_cases h2 : b = d <;> simp [h1, h2]

theorem cHolds (x y z : Int) (w : World) :
    Calls Tryz.prog 124 #[.agg #[.int .i64 x, .int .i64 y], .agg #[.int .i64 z, .int .i64 z]] w fun e w' => e = .returned (.bool (inB x y z)) ∧ Below w.heap.size w w' := by
  have C1 := Lib.hid (fun W => cMeet x y z z W)
  obtain ⟨W0, hW0⟩ : ∃ W0 : World, W0 = (w.alloc (.cells #[.int .i64 x, .int .i64 y] 26)).alloc (.cells #[.int .i64 z, .int .i64 z] 26) := ⟨_, rfl⟩
  have B0 : Below w.heap.size w W0 := by rw [hW0]; exact ((Below.refl _ _).alloc (Nat.le_refl _) _).alloc (by simp) _
  have K1 : BoxAt W0 w.heap.size x y := by rw [hW0]; exact (BoxAt.new w x y _).alloc _
  have K2 : BoxAt W0 (w.heap.size + 1) z z := by rw [hW0]; have h := BoxAt.new (w.alloc (.cells #[.int .i64 x, .int .i64 y] 26)) z z 26; simpa using h
  have HW := Lib.hid hW0
  clear hW0
  go_enter Tryz.func124, Tryz.ntmps124
  go_wp2_with fail
  rw [← HW.out]
  clear HW
  obtain ⟨l1, a0, a1⟩ := K1
  obtain ⟨l2, b0, b1⟩ := K2
  obtain ⟨T, f, t0, hT, ht0, hf, hback⟩ := class_of W0
  have k0 : ∀ t, (f t).cell? ⟨w.heap.size, 0, none⟩ = some (.int .i64 x) := fun t => ((hf t).cell (p := ⟨w.heap.size, 0, none⟩) l1).trans a0
  have k1 : ∀ t, (f t).cell? ⟨w.heap.size, 1, none⟩ = some (.int .i64 y) := fun t => ((hf t).cell (p := ⟨w.heap.size, 1, none⟩) l1).trans a1
  have k2 : ∀ t, (f t).cell? ⟨w.heap.size + 1, 0, none⟩ = some (.int .i64 z) := fun t => ((hf t).cell (p := ⟨w.heap.size + 1, 0, none⟩) l2).trans b0
  have k3 : ∀ t, (f t).cell? ⟨w.heap.size + 1, 1, none⟩ = some (.int .i64 z) := fun t => ((hf t).cell (p := ⟨w.heap.size + 1, 1, none⟩) l2).trans b1
  have HF := Lib.hid hf
  have HK := Lib.hid hback
  clear hf hback
  refine wp_region_class f t0 ht0 (by kernel_rfl) (by kernel_rfl) ?_
  clear ht0
  have hEq := fun W => run_eqSp (max x z) (min y z) z z W
  have hGd := guard_span
  repeat (go_big_quiet_step (first | (go_at_call 125; exact Calls.class_of HF.out HK.out (C1.out _))))
  refine wpQuiet_nil ?_
  rintro w' ⟨t, rfl⟩
  have hbt := B0.trans ((HF.out t).mono B0.size)
  go_wp2
  go_ret
  refine ⟨ret_bool ?_, hbt⟩
  unfold inB
  rw [Bool.eq_iff_iff]
  simp
  omega

def hasV (xs : List Spn) (z : Int) : Value := if yearsB xs then .tuple #[.bool (hasB xs z), .int .i64 0] else .tuple #[.bool false, .int .i64 1]
theorem hasV_ok {xs : List Spn} {z : Int} (h : yearsB xs = true) : hasV xs z = .tuple #[.bool (hasB xs z), .int .i64 0] := by unfold hasV; rw [if_pos h]
theorem hasV_bad {xs : List Spn} {z : Int} (h : yearsB xs = false) : hasV xs z = .tuple #[.bool false, .int .i64 1] := by unfold hasV; rw [if_neg (by simp [h])]
theorem hasV_form (xs : List Spn) (z : Int) : ∃ (a : Bool) (c : Int), hasV xs z = .tuple #[.bool a, .int .i64 c] := by
  unfold hasV; split
  · exact ⟨_, _, rfl⟩
  · exact ⟨_, _, rfl⟩

end
section
set_option linter.unusedVariables false
open Go.RowKit

theorem cOffi (x : Nm) (l : ByteArray) (w : World) :
    Calls Tryz.prog 222 #[nmA x, .string l] w fun e w' => e = .returned (.bool (ofB l x)) ∧ Below w.heap.size w w' := by
  have hb0 := (Below.refl w.heap.size w).alloc (Nat.le_refl _) (.cells #[.string x.t, .string x.l, .int .i64 x.s, .int .i64 x.f, .int .i64 x.u] 100)
  have HX : Hid (ofB l x = (decide (x.s = 0) && decide (x.l = l))) := Lib.hid rfl
  by_cases hs : x.s = 0
  · have h0 : (x.s == 0) = true := by simp [hs]
    have h1 : (x.l.toList == l.toList) = decide (x.l = l) := toList_beq _ _
    have HS := Lib.hid hs
    clear hs
    go_enter Tryz.func222, Tryz.ntmps222
    go_wp2
    go_ret
    exact ⟨ret_bool (by rw [HX.out, decide_eq_true HS.out, Bool.true_and]), hb0⟩
  · have h0 : (x.s == 0) = false := by simp [hs]
    have HS := Lib.hid hs
    clear hs
    go_enter Tryz.func222, Tryz.ntmps222
    go_wp2
    go_ret
    exact ⟨ret_bool (by rw [HX.out, decide_eq_false HS.out, Bool.false_and]), hb0⟩
theorem cl_eq {x y : Nm} (hx : x.s = 0) : clB x y = (ofB x.l y && meetB x.f x.u y.f y.u) := by
  unfold clB ofB
  rw [decide_eq_true hx, Bool.true_and]
  congr 2
  rw [decide_eq_decide]
  exact eq_comm
theorem cl_no {x y : Nm} (hx : ¬ x.s = 0) : clB x y = false := by unfold clB; rw [decide_eq_false hx]; rfl

set_option maxHeartbeats 1000000 in
theorem cExcl (x y : Nm) (w : World) (h1 : spB x.f x.u = true) (h2 : spB y.f y.u = true) :
    Calls Tryz.prog 208 #[nmA x, nmA y] w fun e w' => e = .returned (.bool (clB x y)) ∧ Below w.heap.size w w' := by
  have CO := Lib.hid (fun W => cOffi y x.l W)
  have CM := Lib.hid (fun W => cMeet x.f x.u y.f y.u W)
  have CV := Lib.hid (fun W => cValid (max x.f y.f) (min x.u y.u) W)
  rw [meet_valid h1 h2] at CV
  obtain ⟨W0, hW0⟩ : ∃ W0 : World, W0 = (w.alloc (.cells #[.string x.t, .string x.l, .int .i64 x.s, .int .i64 x.f, .int .i64 x.u] 100)).alloc (.cells #[.string y.t, .string y.l, .int .i64 y.s, .int .i64 y.f, .int .i64 y.u] 100) := ⟨_, rfl⟩
  have B0 : Below w.heap.size w W0 := by rw [hW0]; exact ((Below.refl _ _).alloc (Nat.le_refl _) _).alloc (by simp) _
  have K1 : NmCell W0 w.heap.size 0 x := by rw [hW0]; exact (nm_new w x _).below ((Below.refl (w.heap.size + 1) _).alloc (by simp) _) (by simp)
  have K2 : NmCell W0 (w.heap.size + 1) 0 y := by rw [hW0]; have h := nm_new (w.alloc (.cells #[.string x.t, .string x.l, .int .i64 x.s, .int .i64 x.f, .int .i64 x.u] 100)) y 100; simpa using h
  have l1 : w.heap.size < W0.heap.size := by rw [hW0]; simp; omega
  have l2 : w.heap.size + 1 < W0.heap.size := by rw [hW0]; simp
  have HW := Lib.hid hW0
  have HK1 := Lib.hid K1
  have HK2 := Lib.hid K2
  clear hW0 K1 K2 h1 h2
  by_cases hs : x.s = 0
  · have HX := Lib.hid (cl_eq (y := y) hs)
    have h0 : (x.s == 0) = true := by simp [hs]
    clear hs
    obtain ⟨b, hb⟩ : ∃ b, b = ofB x.l y := ⟨_, rfl⟩
    rw [← hb] at CO HX
    clear hb
    have KC : Hid (∀ W, Below W0.heap.size W0 W → W.cell? ⟨w.heap.size, 1, none⟩ = some (.string x.l) ∧ W.cell? ⟨w.heap.size, 2, none⟩ = some (.int .i64 x.s) ∧ W.cell? ⟨w.heap.size, 3, none⟩ = some (.int .i64 x.f) ∧ W.cell? ⟨w.heap.size, 4, none⟩ = some (.int .i64 x.u) ∧ W.cell? ⟨w.heap.size + 1, 0, none⟩ = some (.string y.t) ∧ W.cell? ⟨w.heap.size + 1, 1, none⟩ = some (.string y.l) ∧ W.cell? ⟨w.heap.size + 1, 2, none⟩ = some (.int .i64 y.s) ∧ W.cell? ⟨w.heap.size + 1, 3, none⟩ = some (.int .i64 y.f) ∧ W.cell? ⟨w.heap.size + 1, 4, none⟩ = some (.int .i64 y.u)) := Lib.hid (fun W hW => by
      have a := HK1.out.below hW l1
      have b := HK2.out.below hW l2
      exact ⟨a.2.1, a.2.2.1, a.2.2.2.1, a.2.2.2.2, b.1, b.2.1, b.2.2.1, b.2.2.2.1, b.2.2.2.2⟩)
    obtain ⟨k1, k2, k3, k4, j0, j1, j2, j3, j4⟩ := KC.out W0 (Below.refl _ _)
    clear HK1 HK2
    go_enter Tryz.func208, Tryz.ntmps208
    go_wp2_with fail
    rw [← HW.out]
    clear HW
    refine (CO.out _).mono ?_
    rintro e w1 ⟨rfl, g1⟩
    clear k1 k2 k3 k4 j0 j1 j2 j3 j4
    have hbt := bstep9 B0 B0.size g1
    cases b
    · clear g1 KC
      go_wp2_with fail
      go_ret
      exact ⟨ret_bool (by rw [HX.out]; rfl), hbt⟩
    · obtain ⟨k1, k2, k3, k4, j0, j1, j2, j3, j4⟩ := KC.out w1 g1
      go_wp2_with fail
      refine (CM.out _).mono ?_
      rintro e w2 ⟨rfl, g2⟩
      have hbt2 := bstep9 hbt hbt.size g2
      clear k1 k2 k3 k4 j0 j1 j2 j3 j4 g1 hbt KC g2
      go_wp2_with fail
      refine (CV.out _).mono ?_
      rintro e w3 ⟨rfl, g3⟩
      have hbt3 := bstep9 hbt2 hbt2.size g3
      clear g3 hbt2
      go_wp2_with fail
      go_ret
      exact ⟨ret_bool (by rw [HX.out]; rfl), hbt3⟩
  · have HX := Lib.hid (cl_no (y := y) hs)
    have h0 : (x.s == 0) = false := by simp [hs]
    have c2 : W0.cell? ⟨w.heap.size, 2, none⟩ = some (.int .i64 x.s) := HK1.out.2.2.1
    clear hs HK1 HK2
    go_enter Tryz.func208, Tryz.ntmps208
    go_wp2_with fail
    all_goals
      go_ret
      exact ⟨ret_bool HX.out.symm, by have := HW.out; rw [← this]; exact B0⟩
end
end Go.Proofs.YtglmibmjbignbaaGreatDoor
