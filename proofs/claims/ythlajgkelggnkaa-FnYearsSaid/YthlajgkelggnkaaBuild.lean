/-
  The contract of spec.l02Build: the spans of the years that are asked for, with gaps between them.
-/
import Derived.Test.YthlajgkelggnkaaHas
import Derived.Maps.AppendAt
namespace Go.Proofs.Ythlajgkelggnkaa
set_option linter.unusedVariables false
open Go.RowKit

/-- Is the year asked for? -/
def askB (both : Bool) (xs ys : List Sp) (z : Int) : Bool := if both then hasB xs z || hasB ys z else hasB xs z && !hasB ys z
/-- The spans of the years asked for, up to year y. -/
def Upto (both : Bool) (xs ys zs : List Sp) (y : Int) : Prop := Sep zs ∧ ∀ z, memS z zs ↔ (askB both xs ys z = true ∧ -3000 ≤ z ∧ z < y)
theorem nil_or_snoc {α : Type} (l : List α) : l = [] ∨ ∃ ws q, l = ws ++ [q] := by
  rcases List.eq_nil_or_concat l with h | ⟨ws, q, h⟩
  · exact .inl h
  · exact .inr ⟨ws, q, by rw [h, List.concat_eq_append]⟩
theorem Upto.start (both : Bool) (xs ys : List Sp) : Upto both xs ys [] (-3000) := ⟨trivial, fun z => ⟨fun h => absurd h (memS_nil z), fun h => by omega⟩⟩
theorem Upto.skip {both : Bool} {xs ys zs : List Sp} {y : Int} (h : Upto both xs ys zs y) (hp : askB both xs ys y = false) : Upto both xs ys zs (y + 1) :=
  ⟨h.1, fun z => by
    rw [h.2 z]
    constructor
    · rintro ⟨h1, h2, h3⟩; exact ⟨h1, h2, by omega⟩
    · rintro ⟨h1, h2, h3⟩
      refine ⟨h1, h2, ?_⟩
      have : z ≠ y := by rintro rfl; rw [hp] at h1; cases h1
      omega⟩
theorem Upto.last {both : Bool} {xs ys ws : List Sp} {q : Sp} {y : Int} (h : Upto both xs ys (ws ++ [q]) y) : q.1 ≤ q.2 ∧ -3000 ≤ q.1 ∧ q.2 < y ∧ q.2 ≤ 3000 := by
  have hq : memS q.2 (ws ++ [q]) ∧ q.1 ≤ q.2 ∧ -3000 ≤ q.1 ∧ q.2 ≤ 3000 := by
    have hs : ∀ {ws : List Sp}, Sep (ws ++ [q]) → q.1 ≤ q.2 ∧ -3000 ≤ q.1 ∧ q.2 ≤ 3000 := by
      intro ws
      induction ws with
      | nil => intro h; exact ⟨h.2.1, h.1, h.2.2.1⟩
      | cons p ws ih => intro h; exact ih h.tail
    have h1 := hs h.1
    exact ⟨(memS_app _ _ _).2 (.inr ((memS_one _ _).2 ⟨h1.1, Int.le_refl _⟩)), h1⟩
  exact ⟨hq.2.1, hq.2.2.1, ((h.2 _).1 hq.1).2.2, hq.2.2.2⟩
theorem Upto.widen {both : Bool} {xs ys ws : List Sp} {q : Sp} {y : Int} (h : Upto both xs ys (ws ++ [q]) y) (hp : askB both xs ys y = true) (hq : q.2 = y - 1) (hy : y ≤ 3000) (hy0 : -3000 ≤ y) : Upto both xs ys (ws ++ [(q.1, y)]) (y + 1) := by
  have hl := h.last
  refine ⟨h.1.widen (by omega) hy, fun z => ?_⟩
  have hz := h.2 z
  rw [memS_app, memS_one] at hz ⊢
  constructor
  · rintro (h1 | ⟨h1, h2⟩)
    · have := hz.1 (.inl h1); exact ⟨this.1, this.2.1, by omega⟩
    · by_cases e : z = y
      · subst e; exact ⟨hp, hy0, by omega⟩
      · have := hz.1 (.inr ⟨h1, by simp only at h2; omega⟩); exact ⟨this.1, this.2.1, by omega⟩
  · rintro ⟨h1, h2, h3⟩
    by_cases e : z = y
    · subst e; exact .inr ⟨by show q.1 ≤ z; omega, Int.le_refl _⟩
    · rcases hz.2 ⟨h1, h2, by omega⟩ with h4 | ⟨h4, h5⟩
      · exact .inl h4
      · exact .inr ⟨h4, by show z ≤ y; omega⟩
theorem Upto.add {both : Bool} {xs ys zs : List Sp} {y : Int} (h : Upto both xs ys zs y) (hp : askB both xs ys y = true) (hy : y ≤ 3000) (hy0 : -3000 ≤ y) (hq : ∀ ws q, zs = ws ++ [q] → q.2 ≠ y - 1) : Upto both xs ys (zs ++ [(y, y)]) (y + 1) := by
  have hs : Sep (zs ++ [(y, y)]) := by
    rcases nil_or_snoc zs with rfl | ⟨ws, q, rfl⟩
    · exact Sep.one hy0 (Int.le_refl _) hy
    · have hl := h.last
      have hn := hq ws q rfl
      exact h.1.app hy0 (Int.le_refl _) hy (by show q.2 + 2 ≤ y; omega)
  refine ⟨hs, fun z => ?_⟩
  rw [memS_app, memS_one, h.2 z]
  constructor
  · rintro (⟨h1, h2, h3⟩ | ⟨h1, h2⟩)
    · exact ⟨h1, h2, by omega⟩
    · obtain rfl : z = y := by simp only at h1 h2; omega
      exact ⟨hp, hy0, by omega⟩
  · rintro ⟨h1, h2, h3⟩
    by_cases e : z = y
    · subst e; exact .inr ⟨Int.le_refl _, Int.le_refl _⟩
    · exact .inl ⟨h1, h2, by omega⟩
theorem spanV_set (ws : List Sp) (q : Sp) (y : Int) : (spanV (ws ++ [q])).set (ws.length * 2 + 1) (.int .i64 y) = spanV (ws ++ [(q.1, y)]) := by
  rw [spanV_app, spanV_app, spanV_one, spanV_one, List.set_append_right _ _ (by rw [spanV_len]; omega), spanV_len, show ws.length * 2 + 1 - ws.length * 2 = 1 by omega]
  rfl
theorem two_cells (w : World) (x y : Int) (t : TypeId) : ∀ (j : Nat) u, [Value.int .i64 x, .int .i64 y][j]? = some u → (w.alloc (.cells #[.int .i64 x, .int .i64 y] t)).cell? ((⟨w.heap.size, 0, none⟩ : Addr).add j) = some u := by
  intro j u h
  rw [add_plain2, Nat.zero_add, World.cell?_alloc_at _ _ _ _ rfl]
  match j, h with
  | 0, h => exact h
  | 1, h => exact h
theorem two_one (x y : Int) : ∀ u ∈ [Value.int .i64 x, .int .i64 y], u.oneCell' = true := by
  intro u hu; simp at hu; rcases hu with rfl | rfl <;> rfl
theorem span_form {w : World} {base : Nat} {v : Value} {m : Nat} {xs : List Value} {t : TypeId} (h : w.ownsRow base t 2 v m xs) : ∃ A c, v = .slice A m c := by
  rcases h.2 with ⟨rfl, rfl⟩ | ⟨g, cap, cur, rfl, _⟩
  · exact ⟨_, _, rfl⟩
  · exact ⟨_, _, rfl⟩
def BuildPost (both : Bool) (xs ys : List Sp) (w : World) (e : Ending) (w' : World) : Prop :=
  ∃ (zs : List Sp) (A : Option Addr) (c : Nat), zs.length ≤ 6001 ∧ Upto both xs ys zs 3001 ∧ e = .returned (.slice A zs.length c) ∧ w'.ownsRow w.heap.size 30 2 (.slice A zs.length c) zs.length (spanV zs) ∧ Below w.heap.size w w'

theorem below_grown_ {w w' : World} (h : Below w.heap.size w w') (row : Option Nat) : w.grownBy w' row := ⟨h.os, h.tape, h.output, h.size, fun k hk _ => h.block k hk⟩

set_option maxHeartbeats 4000000 in
set_option maxRecDepth 100000 in
theorem cBuild_minus (A B : Option Addr) (n n' cap cap' : Nat) (xs ys : List Sp) (w : World) (hbig : n ≤ 1048576) (hbig' : n' ≤ 1048576) (h : SpanAt w w.heap.size A n xs) (h' : SpanAt w w.heap.size B n' ys) :
    Calls Try.prog 52 #[.slice A n cap, .slice B n' cap', .bool false] w (BuildPost false xs ys w) := by
  obtain ⟨i0, hi0, hz0, hz1, hz2⟩ := info_parts info_span
  have H := Lib.hid h
  have H' := Lib.hid h'
  clear h h'
  go_enter Try.func52, Try.ntmps52
  go_wp2_with fail
  go_loopw [7, 8] (fun o yy wr => ∃ (m c : Nat) (C : Option Addr) (zs : List Sp) (y : Int), -3000 ≤ y ∧ y ≤ 3001 ∧ yy = .int .i64 y ∧ o = .slice C m c ∧ (m : Int) ≤ y + 3000 ∧ Hid (m = zs.length) ∧ Hid (Upto false xs ys zs y) ∧ wr.ownsRow w.heap.size 30 2 (.slice C m c) m (spanV zs) ∧ Below w.heap.size w wr) (fun _ yy _ => (3001 - intOf yy).toNat)
  case atStart =>
    exact ⟨0, 0, _, [], -3000, by omega, by omega, rfl, rfl, by omega, Lib.hid rfl, Lib.hid (Upto.start _ _ _), World.ownsRow_lit (e := 30) (base := w.heap.size) (size := 2) w #[] 0 (Nat.le_refl _) (by decide) rfl, (Below.refl _ _).alloc (Nat.le_refl _) _⟩
  case round =>
    obtain ⟨m, c, C, zs, y, hy0, hy1, rfl, rfl, hm, HM, HU, hown, hbw⟩ := hrel
    by_cases hlt : y ≤ 3000
    · have CA := Lib.hid (fun W (hb : Below wr.heap.size wr W) => cHas_spec A n cap xs y W hbig ((H.out.below (hbw.trans (hb.mono hbw.size))).more (Nat.le_trans hbw.size hb.size)))
      have CB := Lib.hid (fun W (hb : Below wr.heap.size wr W) => cHas_spec B n' cap' ys y W hbig' ((H'.out.below (hbw.trans (hb.mono hbw.size))).more (Nat.le_trans hbw.size hb.size)))
      cases ha : hasB xs y
      · have HP : Hid (askB false xs ys y = false) := Lib.hid (by unfold askB; simp [ha])
        have HS := Lib.hid (HU.out.skip HP.out)
        rw [ha] at CA
        clear ha
        go_wp2_with fail
        refine (CA.out _ (Below.refl _ _)).mono ?_
        rintro e w1 ⟨rfl, hc1⟩
        have hb1 := hc1
        go_wp2_with fail
        go_roundw
        case rel => exact ⟨m, c, C, zs, y + 1, by omega, by omega, rfl, rfl, by omega, HM, HS, hown.kept (below_grown_ hb1 none) (by cases hC : (Value.slice C m c).ownBlock <;> simp), hbw.trans (hb1.mono hbw.size)⟩
        case measure => simp [intOf]; omega
      · cases hb : hasB ys y
        · have HP : Hid (askB false xs ys y = true) := Lib.hid (by unfold askB; simp [ha, hb])
          rw [ha] at CA
          rw [hb] at CB
          clear ha hb
          go_wp2_with fail
          refine (CA.out _ (Below.refl _ _)).mono ?_
          rintro e w1 ⟨rfl, hc1⟩
          have hb1 := hc1
          go_wp2_with fail
          refine (CB.out _ hb1).mono ?_
          rintro e w2 ⟨rfl, hc2⟩
          have hb2 := hb1.trans (hc2.mono hb1.size)
          have hown2 := hown.kept (below_grown_ hb2 none) (by cases hC : (Value.slice C m c).ownBlock <;> simp)
          have hbw2 := hbw.trans (hb2.mono hbw.size)
          clear hown hbw
          by_cases hm0 : m = 0
          · have z1 : decide (0 < m) = false := decide_eq_false (by omega)
            have z2 : decide ((0 : Int) < (m : Int)) = false := decide_eq_false (by omega)
            have HT := Lib.hid (HU.out.add HP.out hlt hy0 (fun ws q e => by have h1 := HM.out; rw [e, List.length_append] at h1; simp at h1; omega))
            clear hm0
            go_wp2_with (at_builtin; refine wpList_append_own _ rfl _ _ 24 rfl w.heap.size 30 i0 _ 2 16 Try.underlying24 hi0 hz0 hz1 hz2 rfl (by decide) _ _ _ rfl (hown2.alloc _) ⟨w2.heap.size, 0, none⟩ 1 1 [.int .i64 y, .int .i64 y] rfl rfl (two_cells _ _ _ _) (two_one _ _) ?d23 ?d24 ?d25 ?_)
            case d23 => unfold maxLen; omega
            case d24 => omega
            case d25 => have := hbw2.size; simp; omega
            intro v' wz hown1 hgrow1 _
            rw [← spanV_one (y, y), ← spanV_app] at hown1
            obtain ⟨C', c', rfl⟩ := span_form hown1
            have hbz := (hbw2.alloc hbw2.size _).grown hgrow1 (by have := hbw2.size; simp; omega) (fun x hx => (hown2.lt x hx).1)
            clear z1 z2 hown2 hbw2
            go_wp2_with fail
            go_roundw
            case rel => exact ⟨m + 1, c', C', zs ++ [(y, y)], y + 1, by omega, by omega, rfl, rfl, by omega, Lib.hid (by rw [List.length_append, ← HM.out]; rfl), HT, hown1, hbz⟩
            case measure => simp [intOf]; omega
          · obtain ⟨ws, q, hws⟩ : ∃ ws q, zs = ws ++ [q] := by
              rcases nil_or_snoc zs with h1 | ⟨ws, q, h1⟩
              · exact absurd HM.out (by rw [h1]; exact hm0)
              · exact ⟨ws, q, h1⟩
            have hlen : m = ws.length + 1 := by rw [HM.out, hws]; simp
            obtain ⟨r, hr⟩ : ∃ r, r = ws.length := ⟨_, rfl⟩
            obtain ⟨g, cc, hv, _, hgl⟩ := hown2.form (by omega)
            obtain ⟨rfl, rfl⟩ : C = some ⟨g, 0, none⟩ ∧ c = cc := by injection hv with h1 h2 h3; exact ⟨h1, h3⟩
            have HL := Lib.hid hlen
            have HR := Lib.hid hr
            have HW := Lib.hid hws
            have hrm : (m : Int) - 1 = (r : Int) := by omega
            have hr0 : (0 : Int) ≤ (r : Int) := Int.natCast_nonneg _
            have hr1 : (r : Int) < (m : Int) := by omega
            have hrn : r < m := by omega
            have z1 : decide (0 < m) = true := decide_eq_true (by omega)
            have z2 : decide ((0 : Int) < (m : Int)) = true := decide_eq_true (by omega)
            have hU2 := HU.out
            rw [hws] at hU2
            have hlast := hU2.last
            have hcell : w2.cell? ⟨g, r * 2 + 1, none⟩ = some (.int .i64 q.2) := by
              rw [hown2.cellAt (r * 2 + 1) (by omega), hws]
              refine (spanV_at (ws ++ [q]) r q ?_).2
              rw [hr, List.getElem?_append_right (Nat.le_refl _), Nat.sub_self]; rfl
            have hfr := hown2.frozenAt (r * 2 + 1)
            obtain ⟨qx, qy⟩ := q
            have q1 : -3000 ≤ qy := by have := hlast.1; have := hlast.2.1; simp only at *; omega
            have q2 : qy ≤ 3000 := hlast.2.2.2
            clear hws hlen hv hr hlast hm0
            by_cases hq : qy = y - 1
            · have HT := Lib.hid (hU2.widen HP.out hq hlt hy0)
              have z3 : (qy == y - 1) = true := by rw [beq_iff_eq]; exact hq
              have hst := (hown2.stored (r * 2 + 1) (.int .i64 y)).1
              rw [HW.out, HR.out, spanV_set, ← HR.out] at hst
              have hbz : Below w.heap.size w (w2.setCell ⟨g, r * 2 + 1, none⟩ (.int .i64 y)) := hbw2.setCell (p := ⟨g, r * 2 + 1, none⟩) (hown2.lt g rfl).1 _
              clear hq hU2 hown2
              go_wp2_with fail
              go_roundw
              case rel => exact ⟨m, c, _, ws ++ [(qx, y)], y + 1, by omega, by omega, rfl, rfl, by omega, Lib.hid (by rw [HL.out, List.length_append]; rfl), HT, hst, hbz⟩
              case measure => simp [intOf]; omega
            · have HT := Lib.hid (HU.out.add HP.out hlt hy0 (fun ws' q' e => by
                rw [HW.out] at e
                have e2 := List.append_inj_right' e rfl
                injection e2 with e3
                rw [← e3]; exact hq))
              have z3 : (qy == y - 1) = false := by rw [beq_eq_false_iff_ne]; exact hq
              clear hq hU2
              go_wp2_with (at_builtin; refine wpList_append_own _ rfl _ _ 24 rfl w.heap.size 30 i0 _ 2 16 Try.underlying24 hi0 hz0 hz1 hz2 rfl (by decide) _ _ _ rfl (hown2.alloc _) ⟨w2.heap.size, 0, none⟩ 1 1 [.int .i64 y, .int .i64 y] rfl rfl (two_cells _ _ _ _) (two_one _ _) ?e23 ?e24 ?e25 ?_)
              case e23 => unfold maxLen; omega
              case e24 => omega
              case e25 => have := hbw2.size; simp; omega
              intro v' wz hown1 hgrow1 _
              rw [← spanV_one (y, y), ← spanV_app] at hown1
              obtain ⟨C', c', rfl⟩ := span_form hown1
              have hbz := (hbw2.alloc hbw2.size _).grown hgrow1 (by have := hbw2.size; simp; omega) (fun x hx => (hown2.lt x hx).1)
              clear z1 z2 z3 hown2 hbw2 hcell hfr
              go_wp2_with fail
              go_roundw
              case rel => exact ⟨m + 1, c', C', zs ++ [(y, y)], y + 1, by omega, by omega, rfl, rfl, by omega, Lib.hid (by rw [List.length_append, ← HM.out]; rfl), HT, hown1, hbz⟩
              case measure => simp [intOf]; omega
        · have HP : Hid (askB false xs ys y = false) := Lib.hid (by unfold askB; simp [ha, hb])
          have HS := Lib.hid (HU.out.skip HP.out)
          rw [ha] at CA
          rw [hb] at CB
          clear ha hb
          go_wp2_with fail
          refine (CA.out _ (Below.refl _ _)).mono ?_
          rintro e w1 ⟨rfl, hc1⟩
          have hb1 := hc1
          go_wp2_with fail
          refine (CB.out _ hb1).mono ?_
          rintro e w2 ⟨rfl, hc2⟩
          have hb2 := hb1.trans (hc2.mono hb1.size)
          go_wp2_with fail
          go_roundw
          case rel => exact ⟨m, c, C, zs, y + 1, by omega, by omega, rfl, rfl, by omega, HM, HS, hown.kept (below_grown_ hb2 none) (by cases hC : (Value.slice C m c).ownBlock <;> simp), hbw.trans (hb2.mono hbw.size)⟩
          case measure => simp [intOf]; omega
    · obtain rfl : y = 3001 := by omega
      have hl : m = zs.length := HM.out
      subst hl
      go_wp2_with fail
      go_ret
      exact ⟨zs, C, c, by omega, HU.out, rfl, hown, hbw⟩

set_option maxHeartbeats 4000000 in
set_option maxRecDepth 100000 in
theorem cBuild_union (A B : Option Addr) (n n' cap cap' : Nat) (xs ys : List Sp) (w : World) (hbig : n ≤ 1048576) (hbig' : n' ≤ 1048576) (h : SpanAt w w.heap.size A n xs) (h' : SpanAt w w.heap.size B n' ys) :
    Calls Try.prog 52 #[.slice A n cap, .slice B n' cap', .bool true] w (BuildPost true xs ys w) := by
  obtain ⟨i0, hi0, hz0, hz1, hz2⟩ := info_parts info_span
  have H := Lib.hid h
  have H' := Lib.hid h'
  clear h h'
  go_enter Try.func52, Try.ntmps52
  go_wp2_with fail
  go_loopw [7, 8] (fun o yy wr => ∃ (m c : Nat) (C : Option Addr) (zs : List Sp) (y : Int), -3000 ≤ y ∧ y ≤ 3001 ∧ yy = .int .i64 y ∧ o = .slice C m c ∧ (m : Int) ≤ y + 3000 ∧ Hid (m = zs.length) ∧ Hid (Upto true xs ys zs y) ∧ wr.ownsRow w.heap.size 30 2 (.slice C m c) m (spanV zs) ∧ Below w.heap.size w wr) (fun _ yy _ => (3001 - intOf yy).toNat)
  case atStart =>
    exact ⟨0, 0, _, [], -3000, by omega, by omega, rfl, rfl, by omega, Lib.hid rfl, Lib.hid (Upto.start _ _ _), World.ownsRow_lit (e := 30) (base := w.heap.size) (size := 2) w #[] 0 (Nat.le_refl _) (by decide) rfl, (Below.refl _ _).alloc (Nat.le_refl _) _⟩
  case round =>
    obtain ⟨m, c, C, zs, y, hy0, hy1, rfl, rfl, hm, HM, HU, hown, hbw⟩ := hrel
    by_cases hlt : y ≤ 3000
    · have CA := Lib.hid (fun W (hb : Below wr.heap.size wr W) => cHas_spec A n cap xs y W hbig ((H.out.below (hbw.trans (hb.mono hbw.size))).more (Nat.le_trans hbw.size hb.size)))
      have CB := Lib.hid (fun W (hb : Below wr.heap.size wr W) => cHas_spec B n' cap' ys y W hbig' ((H'.out.below (hbw.trans (hb.mono hbw.size))).more (Nat.le_trans hbw.size hb.size)))
      cases ha : hasB xs y
      · cases hb : hasB ys y
        · have HP : Hid (askB true xs ys y = false) := Lib.hid (by unfold askB; simp [ha, hb])
          have HS := Lib.hid (HU.out.skip HP.out)
          rw [ha] at CA
          rw [hb] at CB
          clear ha hb
          go_wp2_with fail
          refine (CA.out _ (Below.refl _ _)).mono ?_
          rintro e w1 ⟨rfl, hc1⟩
          have hb1 := hc1
          go_wp2_with fail
          refine (CA.out _ hb1).mono ?_
          rintro e w2 ⟨rfl, hc2⟩
          have hb2 := hb1.trans (hc2.mono hb1.size)
          go_wp2_with fail
          refine (CB.out _ hb2).mono ?_
          rintro e w3 ⟨rfl, hc3⟩
          have hb3 := hb2.trans (hc3.mono hb2.size)
          go_wp2_with fail
          go_roundw
          case rel => exact ⟨m, c, C, zs, y + 1, by omega, by omega, rfl, rfl, by omega, HM, HS, hown.kept (below_grown_ hb3 none) (by cases hC : (Value.slice C m c).ownBlock <;> simp), hbw.trans (hb3.mono hbw.size)⟩
          case measure => simp [intOf]; omega
        · have HP : Hid (askB true xs ys y = true) := Lib.hid (by unfold askB; simp [ha, hb])
          rw [ha] at CA
          rw [hb] at CB
          clear ha hb
          go_wp2_with fail
          refine (CA.out _ (Below.refl _ _)).mono ?_
          rintro e w1 ⟨rfl, hc1⟩
          have hb1 := hc1
          go_wp2_with fail
          refine (CA.out _ hb1).mono ?_
          rintro e w2 ⟨rfl, hc2⟩
          have hb2 := hb1.trans (hc2.mono hb1.size)
          go_wp2_with fail
          refine (CB.out _ hb2).mono ?_
          rintro e w3 ⟨rfl, hc3⟩
          have hb3 := hb2.trans (hc3.mono hb2.size)
          have hown3 := hown.kept (below_grown_ hb3 none) (by cases hC : (Value.slice C m c).ownBlock <;> simp)
          have hbw3 := hbw.trans (hb3.mono hbw.size)
          clear hown hbw
          by_cases hm0 : m = 0
          · have z1 : decide (0 < m) = false := decide_eq_false (by omega)
            have z2 : decide ((0 : Int) < (m : Int)) = false := decide_eq_false (by omega)
            have HT := Lib.hid (HU.out.add HP.out hlt hy0 (fun ws q e => by have h1 := HM.out; rw [e, List.length_append] at h1; simp at h1; omega))
            clear hm0
            go_wp2_with (at_builtin; refine wpList_append_own _ rfl _ _ 24 rfl w.heap.size 30 i0 _ 2 16 Try.underlying24 hi0 hz0 hz1 hz2 rfl (by decide) _ _ _ rfl (hown3.alloc _) ⟨w3.heap.size, 0, none⟩ 1 1 [.int .i64 y, .int .i64 y] rfl rfl (two_cells _ _ _ _) (two_one _ _) ?d33 ?d34 ?d35 ?_)
            case d33 => unfold maxLen; omega
            case d34 => omega
            case d35 => have := hbw3.size; simp; omega
            intro v' wz hown1 hgrow1 _
            rw [← spanV_one (y, y), ← spanV_app] at hown1
            obtain ⟨C', c', rfl⟩ := span_form hown1
            have hbz := (hbw3.alloc hbw3.size _).grown hgrow1 (by have := hbw3.size; simp; omega) (fun x hx => (hown3.lt x hx).1)
            clear z1 z2 hown3 hbw3
            go_wp2_with fail
            go_roundw
            case rel => exact ⟨m + 1, c', C', zs ++ [(y, y)], y + 1, by omega, by omega, rfl, rfl, by omega, Lib.hid (by rw [List.length_append, ← HM.out]; rfl), HT, hown1, hbz⟩
            case measure => simp [intOf]; omega
          · obtain ⟨ws, q, hws⟩ : ∃ ws q, zs = ws ++ [q] := by
              rcases nil_or_snoc zs with h1 | ⟨ws, q, h1⟩
              · exact absurd HM.out (by rw [h1]; exact hm0)
              · exact ⟨ws, q, h1⟩
            have hlen : m = ws.length + 1 := by rw [HM.out, hws]; simp
            obtain ⟨r, hr⟩ : ∃ r, r = ws.length := ⟨_, rfl⟩
            obtain ⟨g, cc, hv, _, hgl⟩ := hown3.form (by omega)
            obtain ⟨rfl, rfl⟩ : C = some ⟨g, 0, none⟩ ∧ c = cc := by injection hv with h1 h2 h3; exact ⟨h1, h3⟩
            have HL := Lib.hid hlen
            have HR := Lib.hid hr
            have HW := Lib.hid hws
            have hrm : (m : Int) - 1 = (r : Int) := by omega
            have hr0 : (0 : Int) ≤ (r : Int) := Int.natCast_nonneg _
            have hr1 : (r : Int) < (m : Int) := by omega
            have hrn : r < m := by omega
            have z1 : decide (0 < m) = true := decide_eq_true (by omega)
            have z2 : decide ((0 : Int) < (m : Int)) = true := decide_eq_true (by omega)
            have hU2 := HU.out
            rw [hws] at hU2
            have hlast := hU2.last
            have hcell : w3.cell? ⟨g, r * 2 + 1, none⟩ = some (.int .i64 q.2) := by
              rw [hown3.cellAt (r * 2 + 1) (by omega), hws]
              refine (spanV_at (ws ++ [q]) r q ?_).2
              rw [hr, List.getElem?_append_right (Nat.le_refl _), Nat.sub_self]; rfl
            have hfr := hown3.frozenAt (r * 2 + 1)
            obtain ⟨qx, qy⟩ := q
            have q1 : -3000 ≤ qy := by have := hlast.1; have := hlast.2.1; simp only at *; omega
            have q2 : qy ≤ 3000 := hlast.2.2.2
            clear hws hlen hv hr hlast hm0
            by_cases hq : qy = y - 1
            · have HT := Lib.hid (hU2.widen HP.out hq hlt hy0)
              have z3 : (qy == y - 1) = true := by rw [beq_iff_eq]; exact hq
              have hst := (hown3.stored (r * 2 + 1) (.int .i64 y)).1
              rw [HW.out, HR.out, spanV_set, ← HR.out] at hst
              have hbz : Below w.heap.size w (w3.setCell ⟨g, r * 2 + 1, none⟩ (.int .i64 y)) := hbw3.setCell (p := ⟨g, r * 2 + 1, none⟩) (hown3.lt g rfl).1 _
              clear hq hU2 hown3
              go_wp2_with fail
              go_roundw
              case rel => exact ⟨m, c, _, ws ++ [(qx, y)], y + 1, by omega, by omega, rfl, rfl, by omega, Lib.hid (by rw [HL.out, List.length_append]; rfl), HT, hst, hbz⟩
              case measure => simp [intOf]; omega
            · have HT := Lib.hid (HU.out.add HP.out hlt hy0 (fun ws' q' e => by
                rw [HW.out] at e
                have e2 := List.append_inj_right' e rfl
                injection e2 with e3
                rw [← e3]; exact hq))
              have z3 : (qy == y - 1) = false := by rw [beq_eq_false_iff_ne]; exact hq
              clear hq hU2
              go_wp2_with (at_builtin; refine wpList_append_own _ rfl _ _ 24 rfl w.heap.size 30 i0 _ 2 16 Try.underlying24 hi0 hz0 hz1 hz2 rfl (by decide) _ _ _ rfl (hown3.alloc _) ⟨w3.heap.size, 0, none⟩ 1 1 [.int .i64 y, .int .i64 y] rfl rfl (two_cells _ _ _ _) (two_one _ _) ?e33 ?e34 ?e35 ?_)
              case e33 => unfold maxLen; omega
              case e34 => omega
              case e35 => have := hbw3.size; simp; omega
              intro v' wz hown1 hgrow1 _
              rw [← spanV_one (y, y), ← spanV_app] at hown1
              obtain ⟨C', c', rfl⟩ := span_form hown1
              have hbz := (hbw3.alloc hbw3.size _).grown hgrow1 (by have := hbw3.size; simp; omega) (fun x hx => (hown3.lt x hx).1)
              clear z1 z2 z3 hown3 hbw3 hcell hfr
              go_wp2_with fail
              go_roundw
              case rel => exact ⟨m + 1, c', C', zs ++ [(y, y)], y + 1, by omega, by omega, rfl, rfl, by omega, Lib.hid (by rw [List.length_append, ← HM.out]; rfl), HT, hown1, hbz⟩
              case measure => simp [intOf]; omega
      · cases hb : hasB ys y
        · have HP : Hid (askB true xs ys y = true) := Lib.hid (by unfold askB; simp [ha, hb])
          rw [ha] at CA
          rw [hb] at CB
          clear ha hb
          go_wp2_with fail
          refine (CA.out _ (Below.refl _ _)).mono ?_
          rintro e w1 ⟨rfl, hc1⟩
          have hb1 := hc1
          go_wp2_with fail
          refine (CB.out _ hb1).mono ?_
          rintro e w2 ⟨rfl, hc2⟩
          have hb2 := hb1.trans (hc2.mono hb1.size)
          go_wp2_with fail
          refine (CA.out _ hb2).mono ?_
          rintro e w3 ⟨rfl, hc3⟩
          have hb3 := hb2.trans (hc3.mono hb2.size)
          have hown3 := hown.kept (below_grown_ hb3 none) (by cases hC : (Value.slice C m c).ownBlock <;> simp)
          have hbw3 := hbw.trans (hb3.mono hbw.size)
          clear hown hbw
          by_cases hm0 : m = 0
          · have z1 : decide (0 < m) = false := decide_eq_false (by omega)
            have z2 : decide ((0 : Int) < (m : Int)) = false := decide_eq_false (by omega)
            have HT := Lib.hid (HU.out.add HP.out hlt hy0 (fun ws q e => by have h1 := HM.out; rw [e, List.length_append] at h1; simp at h1; omega))
            clear hm0
            go_wp2_with (at_builtin; refine wpList_append_own _ rfl _ _ 24 rfl w.heap.size 30 i0 _ 2 16 Try.underlying24 hi0 hz0 hz1 hz2 rfl (by decide) _ _ _ rfl (hown3.alloc _) ⟨w3.heap.size, 0, none⟩ 1 1 [.int .i64 y, .int .i64 y] rfl rfl (two_cells _ _ _ _) (two_one _ _) ?d33 ?d34 ?d35 ?_)
            case d33 => unfold maxLen; omega
            case d34 => omega
            case d35 => have := hbw3.size; simp; omega
            intro v' wz hown1 hgrow1 _
            rw [← spanV_one (y, y), ← spanV_app] at hown1
            obtain ⟨C', c', rfl⟩ := span_form hown1
            have hbz := (hbw3.alloc hbw3.size _).grown hgrow1 (by have := hbw3.size; simp; omega) (fun x hx => (hown3.lt x hx).1)
            clear z1 z2 hown3 hbw3
            go_wp2_with fail
            go_roundw
            case rel => exact ⟨m + 1, c', C', zs ++ [(y, y)], y + 1, by omega, by omega, rfl, rfl, by omega, Lib.hid (by rw [List.length_append, ← HM.out]; rfl), HT, hown1, hbz⟩
            case measure => simp [intOf]; omega
          · obtain ⟨ws, q, hws⟩ : ∃ ws q, zs = ws ++ [q] := by
              rcases nil_or_snoc zs with h1 | ⟨ws, q, h1⟩
              · exact absurd HM.out (by rw [h1]; exact hm0)
              · exact ⟨ws, q, h1⟩
            have hlen : m = ws.length + 1 := by rw [HM.out, hws]; simp
            obtain ⟨r, hr⟩ : ∃ r, r = ws.length := ⟨_, rfl⟩
            obtain ⟨g, cc, hv, _, hgl⟩ := hown3.form (by omega)
            obtain ⟨rfl, rfl⟩ : C = some ⟨g, 0, none⟩ ∧ c = cc := by injection hv with h1 h2 h3; exact ⟨h1, h3⟩
            have HL := Lib.hid hlen
            have HR := Lib.hid hr
            have HW := Lib.hid hws
            have hrm : (m : Int) - 1 = (r : Int) := by omega
            have hr0 : (0 : Int) ≤ (r : Int) := Int.natCast_nonneg _
            have hr1 : (r : Int) < (m : Int) := by omega
            have hrn : r < m := by omega
            have z1 : decide (0 < m) = true := decide_eq_true (by omega)
            have z2 : decide ((0 : Int) < (m : Int)) = true := decide_eq_true (by omega)
            have hU2 := HU.out
            rw [hws] at hU2
            have hlast := hU2.last
            have hcell : w3.cell? ⟨g, r * 2 + 1, none⟩ = some (.int .i64 q.2) := by
              rw [hown3.cellAt (r * 2 + 1) (by omega), hws]
              refine (spanV_at (ws ++ [q]) r q ?_).2
              rw [hr, List.getElem?_append_right (Nat.le_refl _), Nat.sub_self]; rfl
            have hfr := hown3.frozenAt (r * 2 + 1)
            obtain ⟨qx, qy⟩ := q
            have q1 : -3000 ≤ qy := by have := hlast.1; have := hlast.2.1; simp only at *; omega
            have q2 : qy ≤ 3000 := hlast.2.2.2
            clear hws hlen hv hr hlast hm0
            by_cases hq : qy = y - 1
            · have HT := Lib.hid (hU2.widen HP.out hq hlt hy0)
              have z3 : (qy == y - 1) = true := by rw [beq_iff_eq]; exact hq
              have hst := (hown3.stored (r * 2 + 1) (.int .i64 y)).1
              rw [HW.out, HR.out, spanV_set, ← HR.out] at hst
              have hbz : Below w.heap.size w (w3.setCell ⟨g, r * 2 + 1, none⟩ (.int .i64 y)) := hbw3.setCell (p := ⟨g, r * 2 + 1, none⟩) (hown3.lt g rfl).1 _
              clear hq hU2 hown3
              go_wp2_with fail
              go_roundw
              case rel => exact ⟨m, c, _, ws ++ [(qx, y)], y + 1, by omega, by omega, rfl, rfl, by omega, Lib.hid (by rw [HL.out, List.length_append]; rfl), HT, hst, hbz⟩
              case measure => simp [intOf]; omega
            · have HT := Lib.hid (HU.out.add HP.out hlt hy0 (fun ws' q' e => by
                rw [HW.out] at e
                have e2 := List.append_inj_right' e rfl
                injection e2 with e3
                rw [← e3]; exact hq))
              have z3 : (qy == y - 1) = false := by rw [beq_eq_false_iff_ne]; exact hq
              clear hq hU2
              go_wp2_with (at_builtin; refine wpList_append_own _ rfl _ _ 24 rfl w.heap.size 30 i0 _ 2 16 Try.underlying24 hi0 hz0 hz1 hz2 rfl (by decide) _ _ _ rfl (hown3.alloc _) ⟨w3.heap.size, 0, none⟩ 1 1 [.int .i64 y, .int .i64 y] rfl rfl (two_cells _ _ _ _) (two_one _ _) ?e33 ?e34 ?e35 ?_)
              case e33 => unfold maxLen; omega
              case e34 => omega
              case e35 => have := hbw3.size; simp; omega
              intro v' wz hown1 hgrow1 _
              rw [← spanV_one (y, y), ← spanV_app] at hown1
              obtain ⟨C', c', rfl⟩ := span_form hown1
              have hbz := (hbw3.alloc hbw3.size _).grown hgrow1 (by have := hbw3.size; simp; omega) (fun x hx => (hown3.lt x hx).1)
              clear z1 z2 z3 hown3 hbw3 hcell hfr
              go_wp2_with fail
              go_roundw
              case rel => exact ⟨m + 1, c', C', zs ++ [(y, y)], y + 1, by omega, by omega, rfl, rfl, by omega, Lib.hid (by rw [List.length_append, ← HM.out]; rfl), HT, hown1, hbz⟩
              case measure => simp [intOf]; omega
        · have HP : Hid (askB true xs ys y = true) := Lib.hid (by unfold askB; simp [ha, hb])
          rw [ha] at CA
          rw [hb] at CB
          clear ha hb
          go_wp2_with fail
          refine (CA.out _ (Below.refl _ _)).mono ?_
          rintro e w1 ⟨rfl, hc1⟩
          have hb1 := hc1
          go_wp2_with fail
          refine (CB.out _ hb1).mono ?_
          rintro e w2 ⟨rfl, hc2⟩
          have hb2 := hb1.trans (hc2.mono hb1.size)
          go_wp2_with fail
          refine (CA.out _ hb2).mono ?_
          rintro e w3 ⟨rfl, hc3⟩
          have hb3 := hb2.trans (hc3.mono hb2.size)
          have hown3 := hown.kept (below_grown_ hb3 none) (by cases hC : (Value.slice C m c).ownBlock <;> simp)
          have hbw3 := hbw.trans (hb3.mono hbw.size)
          clear hown hbw
          by_cases hm0 : m = 0
          · have z1 : decide (0 < m) = false := decide_eq_false (by omega)
            have z2 : decide ((0 : Int) < (m : Int)) = false := decide_eq_false (by omega)
            have HT := Lib.hid (HU.out.add HP.out hlt hy0 (fun ws q e => by have h1 := HM.out; rw [e, List.length_append] at h1; simp at h1; omega))
            clear hm0
            go_wp2_with (at_builtin; refine wpList_append_own _ rfl _ _ 24 rfl w.heap.size 30 i0 _ 2 16 Try.underlying24 hi0 hz0 hz1 hz2 rfl (by decide) _ _ _ rfl (hown3.alloc _) ⟨w3.heap.size, 0, none⟩ 1 1 [.int .i64 y, .int .i64 y] rfl rfl (two_cells _ _ _ _) (two_one _ _) ?d33 ?d34 ?d35 ?_)
            case d33 => unfold maxLen; omega
            case d34 => omega
            case d35 => have := hbw3.size; simp; omega
            intro v' wz hown1 hgrow1 _
            rw [← spanV_one (y, y), ← spanV_app] at hown1
            obtain ⟨C', c', rfl⟩ := span_form hown1
            have hbz := (hbw3.alloc hbw3.size _).grown hgrow1 (by have := hbw3.size; simp; omega) (fun x hx => (hown3.lt x hx).1)
            clear z1 z2 hown3 hbw3
            go_wp2_with fail
            go_roundw
            case rel => exact ⟨m + 1, c', C', zs ++ [(y, y)], y + 1, by omega, by omega, rfl, rfl, by omega, Lib.hid (by rw [List.length_append, ← HM.out]; rfl), HT, hown1, hbz⟩
            case measure => simp [intOf]; omega
          · obtain ⟨ws, q, hws⟩ : ∃ ws q, zs = ws ++ [q] := by
              rcases nil_or_snoc zs with h1 | ⟨ws, q, h1⟩
              · exact absurd HM.out (by rw [h1]; exact hm0)
              · exact ⟨ws, q, h1⟩
            have hlen : m = ws.length + 1 := by rw [HM.out, hws]; simp
            obtain ⟨r, hr⟩ : ∃ r, r = ws.length := ⟨_, rfl⟩
            obtain ⟨g, cc, hv, _, hgl⟩ := hown3.form (by omega)
            obtain ⟨rfl, rfl⟩ : C = some ⟨g, 0, none⟩ ∧ c = cc := by injection hv with h1 h2 h3; exact ⟨h1, h3⟩
            have HL := Lib.hid hlen
            have HR := Lib.hid hr
            have HW := Lib.hid hws
            have hrm : (m : Int) - 1 = (r : Int) := by omega
            have hr0 : (0 : Int) ≤ (r : Int) := Int.natCast_nonneg _
            have hr1 : (r : Int) < (m : Int) := by omega
            have hrn : r < m := by omega
            have z1 : decide (0 < m) = true := decide_eq_true (by omega)
            have z2 : decide ((0 : Int) < (m : Int)) = true := decide_eq_true (by omega)
            have hU2 := HU.out
            rw [hws] at hU2
            have hlast := hU2.last
            have hcell : w3.cell? ⟨g, r * 2 + 1, none⟩ = some (.int .i64 q.2) := by
              rw [hown3.cellAt (r * 2 + 1) (by omega), hws]
              refine (spanV_at (ws ++ [q]) r q ?_).2
              rw [hr, List.getElem?_append_right (Nat.le_refl _), Nat.sub_self]; rfl
            have hfr := hown3.frozenAt (r * 2 + 1)
            obtain ⟨qx, qy⟩ := q
            have q1 : -3000 ≤ qy := by have := hlast.1; have := hlast.2.1; simp only at *; omega
            have q2 : qy ≤ 3000 := hlast.2.2.2
            clear hws hlen hv hr hlast hm0
            by_cases hq : qy = y - 1
            · have HT := Lib.hid (hU2.widen HP.out hq hlt hy0)
              have z3 : (qy == y - 1) = true := by rw [beq_iff_eq]; exact hq
              have hst := (hown3.stored (r * 2 + 1) (.int .i64 y)).1
              rw [HW.out, HR.out, spanV_set, ← HR.out] at hst
              have hbz : Below w.heap.size w (w3.setCell ⟨g, r * 2 + 1, none⟩ (.int .i64 y)) := hbw3.setCell (p := ⟨g, r * 2 + 1, none⟩) (hown3.lt g rfl).1 _
              clear hq hU2 hown3
              go_wp2_with fail
              go_roundw
              case rel => exact ⟨m, c, _, ws ++ [(qx, y)], y + 1, by omega, by omega, rfl, rfl, by omega, Lib.hid (by rw [HL.out, List.length_append]; rfl), HT, hst, hbz⟩
              case measure => simp [intOf]; omega
            · have HT := Lib.hid (HU.out.add HP.out hlt hy0 (fun ws' q' e => by
                rw [HW.out] at e
                have e2 := List.append_inj_right' e rfl
                injection e2 with e3
                rw [← e3]; exact hq))
              have z3 : (qy == y - 1) = false := by rw [beq_eq_false_iff_ne]; exact hq
              clear hq hU2
              go_wp2_with (at_builtin; refine wpList_append_own _ rfl _ _ 24 rfl w.heap.size 30 i0 _ 2 16 Try.underlying24 hi0 hz0 hz1 hz2 rfl (by decide) _ _ _ rfl (hown3.alloc _) ⟨w3.heap.size, 0, none⟩ 1 1 [.int .i64 y, .int .i64 y] rfl rfl (two_cells _ _ _ _) (two_one _ _) ?e33 ?e34 ?e35 ?_)
              case e33 => unfold maxLen; omega
              case e34 => omega
              case e35 => have := hbw3.size; simp; omega
              intro v' wz hown1 hgrow1 _
              rw [← spanV_one (y, y), ← spanV_app] at hown1
              obtain ⟨C', c', rfl⟩ := span_form hown1
              have hbz := (hbw3.alloc hbw3.size _).grown hgrow1 (by have := hbw3.size; simp; omega) (fun x hx => (hown3.lt x hx).1)
              clear z1 z2 z3 hown3 hbw3 hcell hfr
              go_wp2_with fail
              go_roundw
              case rel => exact ⟨m + 1, c', C', zs ++ [(y, y)], y + 1, by omega, by omega, rfl, rfl, by omega, Lib.hid (by rw [List.length_append, ← HM.out]; rfl), HT, hown1, hbz⟩
              case measure => simp [intOf]; omega
    · obtain rfl : y = 3001 := by omega
      have hl : m = zs.length := HM.out
      subst hl
      go_wp2_with fail
      go_ret
      exact ⟨zs, C, c, by omega, HU.out, rfl, hown, hbw⟩

end Go.Proofs.Ythlajgkelggnkaa
