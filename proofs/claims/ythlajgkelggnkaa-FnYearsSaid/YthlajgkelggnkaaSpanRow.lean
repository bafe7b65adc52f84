/-
  The contracts of the laws' helpers on slices of spans: szSpanS, toSpanS, eqSpanS.
-/
import Derived.Test.YthlajgkelggnkaaDoMeet
import Derived.Test.YthlajgkelggnkaaSpanArgs
import Derived.Laws.NewBlocks
import Derived.OwnWalk
import Derived.Laws.OwnMore
import Derived.Deep.AppendLies
import Derived.Deep.RegionHeld3
import Derived.Deep.DeepCutAuto
namespace Go.Proofs.Ythlajgkelggnkaa
set_option linter.unusedVariables false
open Go.RowKit

theorem info_span : (Try.prog.info? 30).map (fun i => (i.zero, i.size, i.bytes)) = some (some (.agg #[.int .i64 0, .int .i64 0]), 2, 16) := by kernel_rfl
def copySp (xs : List Sp) (n k : Nat) : List Value := spanV (xs.take k) ++ List.replicate ((n - k) * 2) (.int .i64 0)
theorem copySp_zero (xs : List Sp) (n : Nat) : (madeCells #[Value.int .i64 0, Value.int .i64 0] (n * 2)).toList = copySp xs n 0 := by
  apply List.ext_getElem?
  intro j
  by_cases h : j < n * 2
  · have h2 : j % 2 = 0 ∨ j % 2 = 1 := by omega
    rcases h2 with h2 | h2 <;> simp [madeCells, copySp, spanV, h, h2]
  · rw [List.getElem?_eq_none (by simp [madeCells]; omega), List.getElem?_eq_none (by simp [copySp, spanV]; omega)]
theorem copySp_step (xs : List Sp) (n k : Nat) (p : Sp) (hn : xs.length = n) (h : xs[k]? = some p) : ((copySp xs n k).set (k * 2) (.int .i64 p.1)).set (k * 2 + 1) (.int .i64 p.2) = copySp xs n (k + 1) := by
  have hl := (List.getElem?_eq_some_iff.1 h).1
  have he : xs[k] = p := (List.getElem?_eq_some_iff.1 h).2
  have hs : (spanV (xs.take k)).length = k * 2 := by rw [spanV_len, List.length_take]; omega
  unfold copySp
  rw [List.set_append_right _ _ (by omega), List.set_append_right _ _ (by omega), List.take_succ_eq_append_getElem hl, he, spanV_app, spanV_one, hs, Nat.sub_self, List.append_assoc]
  congr 1
  obtain ⟨d, hd⟩ : ∃ d, n - k = d + 1 := ⟨n - k - 1, by omega⟩
  rw [hd, show n - (k + 1) = d by omega, show (d + 1) * 2 = d * 2 + 1 + 1 by omega, List.replicate_succ, List.replicate_succ, show k * 2 + 1 - k * 2 = 1 by omega]
  rfl
theorem copySp_all (xs : List Sp) (n : Nat) (hn : xs.length = n) : copySp xs n n = spanV xs := by
  unfold copySp; rw [List.take_of_length_le (by omega), Nat.sub_self]; simp

theorem below_set2' {B : Nat} {w w' : World} (h : Below B w w') {g : Nat} (hg : B ≤ g) (i j : Nat) (x y : Value) : Below B w ((w'.setCell ⟨g, i, none⟩ x).setCell ⟨g, j, none⟩ y) := (h.setCell hg x).setCell hg y
theorem cSz (A : Option Addr) (n cap left : Nat) (w : World) (hn : n ≤ maxLen) (hl : left ≤ 1048576) :
    Calls Try.prog 23 #[.slice A n cap, .int .i64 left] w fun e w' => e = .returned (.int .i64 (if n ≤ left then (left : Int) - n else -1)) ∧ w = w' := by
  unfold maxLen at hn
  by_cases h : n ≤ left
  · rw [if_pos h]
    go_enter Try.func23, Try.ntmps23
    go_wp2
    go_ret
    exact ⟨rfl, rfl⟩
  · rw [if_neg h]
    go_enter Try.func23, Try.ntmps23
    go_wp2
    go_ret
    exact ⟨rfl, rfl⟩

set_option maxHeartbeats 1000000 in
theorem cToS (A : Option Addr) (n cap : Nat) (xs : List Sp) (w : World) (hbig : n ≤ 1048576) (h : SpanAt w w.heap.size A n xs) :
    Calls Try.prog 24 #[.slice A n cap] w fun e w' => e = .returned (.slice (some ⟨w.heap.size, 0, none⟩) n n) ∧
      w'.ownsRow w.heap.size 30 2 (.slice (some ⟨w.heap.size, 0, none⟩) n n) n (spanV xs) ∧ Below w.heap.size w w' := by
  obtain ⟨i0, hi0, hz0, hz1, hz2⟩ := info_parts info_span
  have H := Lib.hid h
  clear h
  go_enter Try.func24, Try.ntmps24
  go_wp2_with (at_make; refine wpList_make_full _ rfl _ _ 24 rfl w.heap.size 30 i0 _ 2 Try.underlying24 hi0 hz0 hz1 _ _ _ _ n rfl rfl (by simp) (by simp) ?b2 ?b3 (Nat.le_refl _) ?_)
  case b2 => rw [hz2]; omega
  case b3 => unfold maxLen; omega
  intro w0 hown0 hgrow0
  rw [copySp_zero xs] at hown0
  have hb0 : Below w.heap.size w w0 := (Below.refl _ _).grown hgrow0 (Nat.le_refl _) (fun k h => by cases h)
  clear hgrow0
  go_wp2
  go_loopw [4] (fun i wr => ∃ k : Nat, k ≤ n ∧ i = .int .i64 k ∧ wr.ownsRow w.heap.size 30 2 (.slice (some ⟨w.heap.size, 0, none⟩) n n) n (copySp xs n k) ∧ Below w.heap.size w wr) (fun i _ => n - (intOf i).toNat)
  case atStart => exact ⟨0, Nat.zero_le _, rfl, hown0, hb0⟩
  case round =>
    clear hown0 hb0
    obtain ⟨k, hk, rfl, hown, hbw⟩ := hrel
    by_cases hlt : k < n
    · obtain ⟨p, hp⟩ : ∃ p, xs[k]? = some p := ⟨xs[k]'(by have := H.out.1; omega), List.getElem?_eq_getElem _⟩
      obtain ⟨b, o, rfl, hbl, c0, c1⟩ := (H.out.below hbw).2 k p hp
      have HP := Lib.hid hp
      obtain ⟨x, y⟩ := p
      clear hp
      go_wp2_with fail
      refine (cToSpan x y _).mono ?_
      rintro e w1 ⟨rfl, hb1⟩
      have hown1 := hown.kept ⟨hb1.os, hb1.tape, hb1.output, hb1.size, fun j hj _ => hb1.block j hj⟩ (row := none) (by simp [Value.ownBlock])
      have hbw1 := hbw.trans (hb1.mono hbw.size)
      clear hown hbw
      have hl1 := hown1.1
      obtain ⟨v0, d0⟩ : ∃ v, w1.cell? ⟨w.heap.size, k * 2, none⟩ = some v := ⟨_, (hown1.cellAt (k * 2) (by omega)).trans (List.getElem?_eq_getElem (by omega))⟩
      obtain ⟨v1, d1⟩ : ∃ v, w1.cell? ⟨w.heap.size, k * 2 + 1, none⟩ = some v := ⟨_, (hown1.cellAt (k * 2 + 1) (by omega)).trans (List.getElem?_eq_getElem (by omega))⟩
      have f0 := hown1.frozenAt (k * 2)
      have f1 := hown1.frozenAt (k * 2 + 1)
      have hst := ((hown1.stored (k * 2) (.int .i64 x)).1.stored (k * 2 + 1) (.int .i64 y)).1
      have hcs := copySp_step xs n k (x, y) H.out.1 HP.out
      rw [hcs] at hst
      have hbw2 := below_set2' hbw1 (Nat.le_refl w.heap.size) (k * 2) (k * 2 + 1) (.int .i64 x) (.int .i64 y)
      clear hl1 hown1 hcs
      go_wp2_with fail
      go_roundw
      case rel => exact ⟨k + 1, by omega, by go_num, hst, hbw2⟩
      case measure => simp [intOf]; omega
    · obtain rfl : k = n := by omega
      rw [copySp_all xs k H.out.1] at hown
      go_wp2
      go_ret
      exact ⟨rfl, hown, hbw⟩

theorem keep_cells {W W' : World} {b c p q : Nat} {x y u v : Value} (h : W.cell? ⟨b, p, none⟩ = some x ∧ W.cell? ⟨b, p + 1, none⟩ = some y ∧ W.cell? ⟨c, q, none⟩ = some u ∧ W.cell? ⟨c, q + 1, none⟩ = some v ∧ b < W.heap.size ∧ c < W.heap.size) (hb : Below W.heap.size W W') :
    W'.cell? ⟨b, p, none⟩ = some x ∧ W'.cell? ⟨b, p + 1, none⟩ = some y ∧ W'.cell? ⟨c, q, none⟩ = some u ∧ W'.cell? ⟨c, q + 1, none⟩ = some v ∧ b < W'.heap.size ∧ c < W'.heap.size := by
  obtain ⟨h0, h1, h2, h3, l1, l2⟩ := h
  exact ⟨(hb.cell (p := ⟨b, p, none⟩) l1).trans h0, (hb.cell (p := ⟨b, p + 1, none⟩) l1).trans h1, (hb.cell (p := ⟨c, q, none⟩) l2).trans h2, (hb.cell (p := ⟨c, q + 1, none⟩) l2).trans h3, Nat.lt_of_lt_of_le l1 hb.size, Nat.lt_of_lt_of_le l2 hb.size⟩
theorem cEqSpan (x y : Int) (w : World) :
    Calls Try.prog 44 #[.agg #[.int .i64 x, .int .i64 y], .agg #[.int .i64 x, .int .i64 y]] w fun e w' => e = .returned (.bool true) ∧ Below w.heap.size w w' := by
  have hx : (x != x) = false := by simp
  have hy : (y != y) = false := by simp
  go_enter Try.func44, Try.ntmps44
  go_wp2
  go_ret
  exact ⟨rfl, ((Below.refl _ _).alloc (Nat.le_refl _) _).alloc (by simp) _⟩

set_option maxHeartbeats 1000000 in
set_option maxRecDepth 100000 in
theorem cEqSp (A A' : Option Addr) (n cap cap' : Nat) (xs : List Sp) (w : World) (hbig : n ≤ 1099511627776) (h1 : SpanAt w w.heap.size A n xs) (h2 : SpanAt w w.heap.size A' n xs) :
    Calls Try.prog 25 #[.slice A n cap, .slice A' n cap'] w fun e w' => e = .returned (.bool true) ∧ Below w.heap.size w w' := by
  have H1 := Lib.hid h1
  have H2 := Lib.hid h2
  clear h1 h2
  go_enter Try.func25, Try.ntmps25
  go_wp2
  go_loopw [5] (fun i wr => ∃ j : Nat, j ≤ n ∧ i = .int .i64 j ∧ Below w.heap.size w wr) (fun i _ => n - (intOf i).toNat)
  case atStart => exact ⟨0, Nat.zero_le _, rfl, Below.refl _ _⟩
  case round =>
    obtain ⟨j, hj, rfl, hbw⟩ := hrel
    by_cases hlt : j < n
    · obtain ⟨p, hp⟩ : ∃ p, xs[j]? = some p := ⟨xs[j]'(by have := H1.out.1; omega), List.getElem?_eq_getElem _⟩
      obtain ⟨b, o, rfl, hbl, c0, c1⟩ := (H1.out.below hbw).2 j p hp
      obtain ⟨b', o', rfl, hbl', d0, d1⟩ := (H2.out.below hbw).2 j p hp
      have hbl2 := Nat.lt_of_lt_of_le hbl hbw.size
      have hbl3 := Nat.lt_of_lt_of_le hbl' hbw.size
      have HB := Lib.hid hbw
      clear hp hbw
      obtain ⟨x, y⟩ := p
      have e1 : (0 : Int) ≤ (j : Int) := Int.natCast_nonneg _
      have e2 : (j : Int) < (n : Int) := by omega
      go_wp2
      go_region_held3 (fun W => W.cell? ⟨b, o + j * 2, none⟩ = some (.int .i64 x) ∧ W.cell? ⟨b, o + j * 2 + 1, none⟩ = some (.int .i64 y) ∧ W.cell? ⟨b', o' + j * 2, none⟩ = some (.int .i64 x) ∧ W.cell? ⟨b', o' + j * 2 + 1, none⟩ = some (.int .i64 y) ∧ b < W.heap.size ∧ b' < W.heap.size) (first | (exact ⟨c0, c1, d0, d1, hbl2, hbl3⟩) | (exact keep_cells (by assumption) hb) | go_keep) ((go_at_call 44; refine (cEqSpan x y _).mono ?_; rintro e w1 ⟨rfl, hb⟩))
      all_goals
        go_wp2
        go_roundw
        case rel => exact ⟨j + 1, by omega, by go_num, HB.out.drew.trans (hb.mono (by simpa using HB.out.size))⟩
        case measure => simp [intOf]; omega
    · go_wp2
      go_ret
      exact ⟨rfl, hbw⟩
end Go.Proofs.Ythlajgkelggnkaa
