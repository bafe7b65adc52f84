/-
  The contracts of the laws' helpers on slices of spans: szSpanS, toSpanS, eqSpanS.
-/
import Derived.Test.YtjofndiofacjjaaDoorDoMeet
import Derived.Test.YtjofndiofacjjaaDoorSpanArgs
import Derived.Laws.NewBlocks
import Derived.OwnWalk
import Derived.Laws.OwnMore
import Derived.Deep.AppendLies
import Derived.Deep.RegionHeld3
import Derived.Deep.DeepCutAuto
namespace Go.Proofs.YtjofndiofacjjaaDoor
set_option linter.unusedVariables false
open Go.RowKit

theorem info_span : (Tryd.prog.info? 28).map (fun i => (i.zero, i.size, i.bytes)) = some (some (.agg #[.int .i64 0, .int .i64 0]), 2, 16) := by kernel_rfl
def copySp (xs : List Spn) (n k : Nat) : List Value := spanV (xs.take k) ++ List.replicate ((n - k) * 2) (.int .i64 0)
theorem copySp_zero (xs : List Spn) (n : Nat) : (madeCells #[Value.int .i64 0, Value.int .i64 0] (n * 2)).toList = copySp xs n 0 := by
  apply List.ext_getElem?
  intro j
  by_cases h : j < n * 2
  · have h2 : j % 2 = 0 ∨ j % 2 = 1 := by omega
    rcases h2 with h2 | h2 <;> simp [madeCells, copySp, spanV, h, h2]
  · rw [List.getElem?_eq_none (by simp [madeCells]; omega), List.getElem?_eq_none (by simp [copySp, spanV]; omega)]
theorem copySp_step (xs : List Spn) (n k : Nat) (p : Spn) (hn : xs.length = n) (h : xs[k]? = some p) : ((copySp xs n k).set (k * 2) (.int .i64 p.1)).set (k * 2 + 1) (.int .i64 p.2) = copySp xs n (k + 1) := by
  have hl := (List.getElem?_eq_some_iff.1 h).1
  have he : xs[k] = p := (List.getElem?_eq_some_iff.1 h).2
  have hs : (spanV (xs.take k)).length = k * 2 := by rw [spanV_len, List.length_take]; omega
  unfold copySp
  rw [List.set_append_right _ _ (by omega), List.set_append_right _ _ (by omega), List.take_succ_eq_append_getElem hl, he, spanV_app, spanV_one, hs, Nat.sub_self, List.append_assoc]
  congr 1
  obtain ⟨d, hd⟩ : ∃ d, n - k = d + 1 := ⟨n - k - 1, by omega⟩
  rw [hd, show n - (k + 1) = d by omega, show (d + 1) * 2 = d * 2 + 1 + 1 by omega, List.replicate_succ, List.replicate_succ, show k * 2 + 1 - k * 2 = 1 by omega]
  rfl
theorem copySp_all (xs : List Spn) (n : Nat) (hn : xs.length = n) : copySp xs n n = spanV xs := by
  unfold copySp; rw [List.take_of_length_le (by omega), Nat.sub_self]; simp

theorem below_set2' {B : Nat} {w w' : World} (h : Below B w w') {g : Nat} (hg : B ≤ g) (i j : Nat) (x y : Value) : Below B w ((w'.setCell ⟨g, i, none⟩ x).setCell ⟨g, j, none⟩ y) := (h.setCell hg x).setCell hg y
theorem keep_cells {W W' : World} {b c p q : Nat} {x y u v : Value} (h : W.cell? ⟨b, p, none⟩ = some x ∧ W.cell? ⟨b, p + 1, none⟩ = some y ∧ W.cell? ⟨c, q, none⟩ = some u ∧ W.cell? ⟨c, q + 1, none⟩ = some v ∧ b < W.heap.size ∧ c < W.heap.size) (hb : Below W.heap.size W W') :
    W'.cell? ⟨b, p, none⟩ = some x ∧ W'.cell? ⟨b, p + 1, none⟩ = some y ∧ W'.cell? ⟨c, q, none⟩ = some u ∧ W'.cell? ⟨c, q + 1, none⟩ = some v ∧ b < W'.heap.size ∧ c < W'.heap.size := by
  obtain ⟨h0, h1, h2, h3, l1, l2⟩ := h
  exact ⟨(hb.cell (p := ⟨b, p, none⟩) l1).trans h0, (hb.cell (p := ⟨b, p + 1, none⟩) l1).trans h1, (hb.cell (p := ⟨c, q, none⟩) l2).trans h2, (hb.cell (p := ⟨c, q + 1, none⟩) l2).trans h3, Nat.lt_of_lt_of_le l1 hb.size, Nat.lt_of_lt_of_le l2 hb.size⟩
theorem cEqSpan (x y : Int) (w : World) :
    Calls Tryd.prog 76 #[.agg #[.int .i64 x, .int .i64 y], .agg #[.int .i64 x, .int .i64 y]] w fun e w' => e = .returned (.bool true) ∧ Below w.heap.size w w' := by
  have hx : (x != x) = false := by simp
  have hy : (y != y) = false := by simp
  go_enter Tryd.func76, Tryd.ntmps76
  go_wp2
  go_ret
  exact ⟨rfl, ((Below.refl _ _).alloc (Nat.le_refl _) _).alloc (by simp) _⟩

set_option maxHeartbeats 1000000 in
set_option maxRecDepth 100000 in
theorem cEqSp (A A' : Option Addr) (n cap cap' : Nat) (xs : List Spn) (w : World) (hbig : n ≤ 1099511627776) (h1 : SpanAt w w.heap.size A n xs) (h2 : SpanAt w w.heap.size A' n xs) :
    Calls Tryd.prog 43 #[.slice A n cap, .slice A' n cap'] w fun e w' => e = .returned (.bool true) ∧ Below w.heap.size w w' := by
  have H1 := Lib.hid h1
  have H2 := Lib.hid h2
  clear h1 h2
  go_enter Tryd.func43, Tryd.ntmps43
  go_wp2
  go_loopw [5] (fun i wr => ∃ j : Nat, j ≤ n ∧ i = .int .i64 j ∧ Below w.heap.size w wr) (fun i _ => n - (intOf i).toNat)
  case atStart => exact ⟨0, Nat.zero_le _, rfl, Below.refl _ _⟩
  case round =>
    obtain ⟨j, hj, rfl, hbw⟩ := hrel
    by_cases hlt : j < n
    · obtain ⟨p, hp⟩ : ∃ p, xs[j]? = some p := ⟨xs[j]'(by have := H1.out.1; omega), List.getElem?_eq_getElem _⟩
      obtain ⟨b, o, rfl, hbl, c0, c1⟩ := (H1.out.below hbw).2 j p hp
      obtain ⟨b', o', rfl, hbl', d0, d1⟩ := (H2.out.below hbw).2 j p hp
      have hbl2 := Nat.lt_of_lt_of_le hbl hbw.size
      have hbl3 := Nat.lt_of_lt_of_le hbl' hbw.size
      have HB := Lib.hid hbw
      clear hp hbw
      obtain ⟨x, y⟩ := p
      have e1 : (0 : Int) ≤ (j : Int) := Int.natCast_nonneg _
      have e2 : (j : Int) < (n : Int) := by omega
      go_wp2
      go_region_held3 (fun W => W.cell? ⟨b, o + j * 2, none⟩ = some (.int .i64 x) ∧ W.cell? ⟨b, o + j * 2 + 1, none⟩ = some (.int .i64 y) ∧ W.cell? ⟨b', o' + j * 2, none⟩ = some (.int .i64 x) ∧ W.cell? ⟨b', o' + j * 2 + 1, none⟩ = some (.int .i64 y) ∧ b < W.heap.size ∧ b' < W.heap.size) (first | (exact ⟨c0, c1, d0, d1, hbl2, hbl3⟩) | (exact keep_cells (by assumption) hb) | go_keep) ((go_at_call 76; refine (cEqSpan x y _).mono ?_; rintro e w1 ⟨rfl, hb⟩))
      all_goals
        go_wp2
        go_roundw
        case rel => exact ⟨j + 1, by omega, by go_num, HB.out.drew.trans (hb.mono (by simpa using HB.out.size))⟩
        case measure => simp [intOf]; omega
    · go_wp2
      go_ret
      exact ⟨rfl, hbw⟩
end Go.Proofs.YtjofndiofacjjaaDoor
