/-
  The contract of impl.joinTouching: sorted spans are joined where they touch.
-/
import Derived.Test.YthlajgkelggnkaaSortSp
import Derived.StillTailTactics
namespace Go.Proofs.Ythlajgkelggnkaa
set_option linter.unusedVariables false
open Go.RowKit

/-- What has been joined of the first k spans. -/
def Joined (ys : List Sp) (k : Nat) (zs : List Sp) : Prop := Sep zs ∧ (∀ z, memS z zs ↔ memS z (ys.take k)) ∧ (∀ ws q, zs = ws ++ [q] → ∃ p ∈ ys.take k, p.1 = q.1) ∧ zs.length ≤ k
def Valid (ys : List Sp) : Prop := ∀ p ∈ ys, spB p.1 p.2 = true
def Rising (ys : List Sp) : Prop := ∀ (i j : Nat) (p q : Sp), i < j → ys[i]? = some p → ys[j]? = some q → p.1 ≤ q.1
theorem Joined.start (ys : List Sp) : Joined ys 0 [] := ⟨trivial, fun z => by rw [List.take_zero], fun ws q h => by simp at h, Nat.le_refl _⟩
theorem take_mem {ys : List Sp} {k : Nat} {p : Sp} (h : p ∈ ys.take k) : ∃ i, i < k ∧ ys[i]? = some p := by
  obtain ⟨i, hi, he⟩ := List.mem_iff_getElem.1 h
  rw [List.length_take] at hi
  refine ⟨i, by omega, ?_⟩
  rw [← he, List.getElem_take, List.getElem?_eq_getElem]
theorem take_next {ys : List Sp} {k : Nat} {s : Sp} (h : ys[k]? = some s) : ys.take (k + 1) = ys.take k ++ [s] := by
  have hl := (List.getElem?_eq_some_iff.1 h).1
  have he : ys[k] = s := (List.getElem?_eq_some_iff.1 h).2
  rw [List.take_succ_eq_append_getElem hl, he]
theorem Joined.last_le {ys ws : List Sp} {k : Nat} {q s : Sp} (h : Joined ys k (ws ++ [q])) (hr : Rising ys) (hs : ys[k]? = some s) : q.1 ≤ s.1 := by
  obtain ⟨p, hp, he⟩ := h.2.2.1 ws q rfl
  obtain ⟨i, hi, hp⟩ := take_mem hp
  rw [← he]; exact hr i k p s hi hp hs
theorem Sep.last_ {ws : List Sp} {q : Sp} (h : Sep (ws ++ [q])) : -3000 ≤ q.1 ∧ q.1 ≤ q.2 ∧ q.2 ≤ 3000 := ((sep_iff _).1 h).1 q (by simp)
theorem Joined.widen {ys ws : List Sp} {k : Nat} {q s : Sp} (h : Joined ys k (ws ++ [q])) (hr : Rising ys) (hv : Valid ys) (hs : ys[k]? = some s) (ht : s.1 ≤ q.2 + 1) : Joined ys (k + 1) (ws ++ [(q.1, max q.2 s.2)]) := by
  have h1 := h.last_le hr hs
  have h2 := spB_bd (hv s (List.mem_of_getElem? hs))
  have h3 := h.1.last_
  refine ⟨h.1.widen (by omega) (by omega), fun z => ?_, fun ws' q' he => ?_, by have := h.2.2.2; simp at this ⊢; omega⟩
  · rw [take_next hs, memS_app, memS_app, memS_one, memS_one, ← h.2.1 z, memS_app, memS_one]
    simp only
    constructor
    · rintro (a | ⟨a, b⟩)
      · exact .inl (.inl a)
      · by_cases c : z ≤ q.2
        · exact .inl (.inr ⟨a, c⟩)
        · exact .inr ⟨by omega, by omega⟩
    · rintro ((a | ⟨a, b⟩) | ⟨a, b⟩)
      · exact .inl a
      · exact .inr ⟨a, by omega⟩
      · exact .inr ⟨by omega, by omega⟩
  · have e := List.append_inj' he rfl
    injection e.2 with e2
    obtain ⟨p, hp, hq⟩ := h.2.2.1 ws q rfl
    exact ⟨p, by rw [take_next hs]; exact List.mem_append_left _ hp, by rw [← e2]; exact hq⟩
theorem Joined.add {ys zs : List Sp} {k : Nat} {s : Sp} (h : Joined ys k zs) (hv : Valid ys) (hs : ys[k]? = some s) (ht : ∀ ws q, zs = ws ++ [q] → q.2 + 1 < s.1) : Joined ys (k + 1) (zs ++ [s]) := by
  have h2 := spB_bd (hv s (List.mem_of_getElem? hs))
  refine ⟨?_, fun z => ?_, fun ws' q' he => ?_, by have := h.2.2.2; simp; omega⟩
  · rcases nil_or_snoc zs with rfl | ⟨ws, q, rfl⟩
    · exact Sep.one h2.1 h2.2.1 h2.2.2
    · have := ht ws q rfl
      exact h.1.app h2.1 h2.2.1 h2.2.2 (by omega)
  · rw [take_next hs, memS_app, memS_app, h.2.1 z]
  · have e := List.append_inj' he rfl
    injection e.2 with e2
    exact ⟨s, by rw [take_next hs]; simp, by rw [e2]⟩
theorem max_set (ws : List Sp) (q : Sp) (r : Int) : (spanV (ws ++ [q])).set (ws.length * 2 + 1) (.int .i64 r) = spanV (ws ++ [(q.1, r)]) := spanV_set ws q r

def JoinPost (ys : List Sp) (w : World) (e : Ending) (w' : World) : Prop :=
  ∃ (zs : List Sp) (C : Option Addr) (m c : Nat), m = zs.length ∧ Joined ys ys.length zs ∧ e = .returned (.slice C m c) ∧ w'.ownsRow w.heap.size 30 2 (.slice C m c) m (spanV zs) ∧ Below w.heap.size w w'

set_option maxHeartbeats 4000000 in
set_option maxRecDepth 100000 in
theorem cJoinT (A : Option Addr) (n cap : Nat) (ys : List Sp) (w : World) (hbig : n ≤ 1048576) (h : SpanAt w w.heap.size A n ys) (hv : Valid ys) (hr : Rising ys) :
    Calls Try.prog 50 #[.slice A n cap] w (JoinPost ys w) := by
  obtain ⟨i0, hi0, hz0, hz1, hz2⟩ := info_parts info_span
  have H := Lib.hid h
  have HV := Lib.hid hv
  have HR := Lib.hid hr
  clear h hv hr
  go_enter Try.func50, Try.ntmps50
  go_wp2_with fail
  go_loopw [3, 9] (fun o i wr => ∃ (k m c : Nat) (C : Option Addr) (zs : List Sp), k ≤ n ∧ i = .int .i64 k ∧ o = .slice C m c ∧ Hid (m = zs.length) ∧ m ≤ k ∧ Hid (Joined ys k zs) ∧ wr.ownsRow w.heap.size 30 2 (.slice C m c) m (spanV zs) ∧ Below w.heap.size w wr) (fun _ i _ => n - (intOf i).toNat)
  case atStart => exact ⟨0, 0, 0, none, [], Nat.zero_le _, rfl, rfl, Lib.hid rfl, Nat.le_refl _, Lib.hid (Joined.start ys), World.ownsRow_nil _ _ _ _, Below.refl _ _⟩
  case round =>
    obtain ⟨k, m, c, C, zs, hk, rfl, rfl, HM, hm1, HJ, hown, hbw⟩ := hrel
    by_cases hlt : k < n
    · obtain ⟨p, hp⟩ : ∃ p, ys[k]? = some p := ⟨ys[k]'(by have := H.out.1; omega), List.getElem?_eq_getElem _⟩
      obtain ⟨b, o, rfl, hbl, c0, c1⟩ := (H.out.below hbw).2 k p hp
      have hsp := spB_bd (HV.out p (List.mem_of_getElem? hp))
      obtain ⟨x, y⟩ := p
      have HP := Lib.hid hp
      have q1 : -3000 ≤ x := hsp.1
      have q2 : x ≤ 3000 := by have := hsp.2.1; have := hsp.2.2; simp only at *; omega
      have q3 : -3000 ≤ y := by have := hsp.2.1; simp only at *; omega
      have q4 : y ≤ 3000 := hsp.2.2
      have hbA := hbw.alloc hbw.size (.cells #[.int .i64 x, .int .i64 y] 30)
      have hownA := hown.alloc (.cells #[.int .i64 x, .int .i64 y] 30)
      clear hp hsp hown
      by_cases hm0 : m = 0
      · have HJ2 := Lib.hid (HJ.out.add HV.out HP.out (fun ws q e => by have h1 := HM.out; rw [e, List.length_append] at h1; simp at h1; omega))
        have z1 : decide ((0 : Int) ≤ (m : Int) - 1) = false := decide_eq_false (by omega)
        have z2 : decide ((1 : Int) ≤ (m : Int)) = false := decide_eq_false (by omega)
        have z3 : decide (1 ≤ m) = false := decide_eq_false (by omega)
        have z4 : decide (0 < m) = false := decide_eq_false (by omega)
        have s1 : IntKind.i64.wrap ((m : Int) - 1) = (m : Int) - 1 := IntWalk.i64_in _ (by omega)
        clear hbw hm0
        go_wp2_with fail
        go_quiet (fail)
        obtain ⟨WD, hWD⟩ : ∃ WD, WD = (wr.alloc (.cells #[.int .i64 x, .int .i64 y] 30)).drewN nq := ⟨_, rfl⟩
        have HOD : Hid (WD.ownsRow w.heap.size 30 2 (.slice C m c) m (spanV zs)) := Lib.hid (by rw [hWD]; exact hownA)
        have HBD : Hid (Below w.heap.size w WD) := Lib.hid (by rw [hWD]; exact ⟨hbA.os, hbA.tape, hbA.output, hbA.size, hbA.block⟩)
        have k0 : WD.cell? ⟨wr.heap.size, 0, none⟩ = some (.int .i64 x) := by rw [hWD]; exact (box_cell wr x y _).1
        have k1 : WD.cell? ⟨wr.heap.size, 1, none⟩ = some (.int .i64 y) := by rw [hWD]; exact (box_cell wr x y _).2
        rw [← hWD]
        clear hWD hownA hbA z1 z2 z3 z4 s1
        go_wp2_with (at_builtin; refine wpList_append_own _ rfl _ _ 24 rfl w.heap.size 30 i0 _ 2 16 Try.underlying24 hi0 hz0 hz1 hz2 rfl (by decide) _ _ _ rfl (HOD.out.alloc _) ⟨WD.heap.size, 0, none⟩ 1 1 [.int .i64 x, .int .i64 y] rfl rfl (two_cells _ _ _ _) (two_one _ _) ?a3 ?a4 ?a5 ?_)
        case a3 => unfold maxLen; omega
        case a4 => omega
        case a5 => have := HBD.out.size; simp; omega
        intro v' wz hown1 hgrow1 _
        rw [← spanV_one (x, y), ← spanV_app] at hown1
        obtain ⟨C', c', rfl⟩ := span_form hown1
        have hbz := (HBD.out.alloc HBD.out.size _).grown hgrow1 (by have := HBD.out.size; simp; omega) (fun x0 hx0 => (HOD.out.lt x0 hx0).1)
        go_wp2_with fail
        go_roundw
        case rel => exact ⟨k + 1, m + 1, c', C', zs ++ [(x, y)], by omega, by go_num, rfl, Lib.hid (by rw [List.length_append, ← HM.out]; rfl), by omega, HJ2, hown1, hbz⟩
        case measure => simp [intOf]; omega
      · obtain ⟨ws, q, hws⟩ : ∃ ws q, zs = ws ++ [q] := by
          rcases nil_or_snoc zs with h1 | h1
          · exact absurd HM.out (by rw [h1]; exact hm0)
          · exact h1
        have hlen : m = ws.length + 1 := by rw [HM.out, hws]; simp
        obtain ⟨r, hr⟩ : ∃ r, r = ws.length := ⟨_, rfl⟩
        obtain ⟨g, cc, hv, _, hgl⟩ := hownA.form (by omega)
        obtain ⟨rfl, rfl⟩ : C = some ⟨g, 0, none⟩ ∧ c = cc := by injection hv with h1 h2 h3; exact ⟨h1, h3⟩
        have HL := Lib.hid hlen
        have HRR := Lib.hid hr
        have HW := Lib.hid hws
        have hrm : (m : Int) - 1 = (r : Int) := by omega
        have hr0 : (0 : Int) ≤ (r : Int) := Int.natCast_nonneg _
        have hr1 : (r : Int) < (m : Int) := by omega
        have s1 : IntKind.i64.wrap ((m : Int) - 1) = (m : Int) - 1 := IntWalk.i64_in _ (by omega)
        have z1 : decide ((0 : Int) ≤ (r : Int)) = true := decide_eq_true (by omega)
        have hJ2 := HJ.out
        rw [hws] at hJ2
        have hlast := hJ2.1.last_
        have hcell : (wr.alloc (.cells #[.int .i64 x, .int .i64 y] 30)).cell? ⟨g, r * 2 + 1, none⟩ = some (.int .i64 q.2) := by
          rw [hownA.cellAt (r * 2 + 1) (by omega), hws]
          refine (spanV_at (ws ++ [q]) r q ?_).2
          rw [hr, List.getElem?_append_right (Nat.le_refl _), Nat.sub_self]; rfl
        have hfr := hownA.frozenAt (r * 2 + 1)
        obtain ⟨qx, qy⟩ := q
        have q5 : -3000 ≤ qy := by have := hlast.1; have := hlast.2.1; simp only at *; omega
        have q6 : qy ≤ 3000 := hlast.2.2
        have s2 : IntKind.i64.wrap (qy + 1) = qy + 1 := IntWalk.i64_in _ (by omega)
        clear hws hlen hv hr hlast hm0 hbw
        by_cases ht : x ≤ qy + 1
        · have HT := Lib.hid (hJ2.widen HR.out HV.out HP.out ht)
          have z5 : decide (x ≤ qy + 1) = true := decide_eq_true ht
          clear ht hJ2
          go_wp2_with fail
          go_quiet (fail)
          obtain ⟨WD, hWD⟩ : ∃ WD, WD = (wr.alloc (.cells #[.int .i64 x, .int .i64 y] 30)).drewN nq := ⟨_, rfl⟩
          have HOD : Hid (WD.ownsRow w.heap.size 30 2 (.slice (some ⟨g, 0, none⟩) m c) m (spanV zs)) := Lib.hid (by rw [hWD]; exact hownA)
          have HBD : Hid (Below w.heap.size w WD) := Lib.hid (by rw [hWD]; exact ⟨hbA.os, hbA.tape, hbA.output, hbA.size, hbA.block⟩)
          have k0 : WD.cell? ⟨wr.heap.size, 0, none⟩ = some (.int .i64 x) := by rw [hWD]; exact (box_cell wr x y _).1
          have k1 : WD.cell? ⟨wr.heap.size, 1, none⟩ = some (.int .i64 y) := by rw [hWD]; exact (box_cell wr x y _).2
          rw [← hWD]
          have hcell2 : WD.cell? ⟨g, r * 2 + 1, none⟩ = some (.int .i64 qy) := by rw [hWD]; exact hcell
          have hfr2 : WD.frozen? ⟨g, r * 2 + 1, none⟩ = false := by rw [hWD]; exact hfr
          obtain ⟨mx, hmxe⟩ : ∃ mx, mx = max qy y := ⟨_, rfl⟩
          have hmx : ∀ W, (Builtin.max_ #[2, 2] 2 #[.int .i64 qy, .int .i64 y]).run Try.prog W = .ok (.int .i64 mx) W := fun W => by
            rw [run_max_int2, hmxe]
            congr 2
            by_cases hc : qy < y
            · rw [if_pos hc, Int.max_eq_right (by omega)]
            · rw [if_neg hc, Int.max_eq_left (by omega)]
          have hst := (HOD.out.stored (r * 2 + 1) (.int .i64 mx)).1
          rw [HW.out, HRR.out, max_set, ← HRR.out] at hst
          have HT2 : Hid (Joined ys (k + 1) (ws ++ [(qx, mx)])) := Lib.hid (by rw [hmxe]; exact HT.out)
          have hbz : Below w.heap.size w (WD.setCell ⟨g, r * 2 + 1, none⟩ (.int .i64 mx)) := HBD.out.setCell (p := ⟨g, r * 2 + 1, none⟩) (HOD.out.lt g rfl).1 _
          have HST := Lib.hid hst
          have HME := Lib.hid hmxe
          clear hWD hownA hbA hcell hfr z5 s2 hst hmxe
          go_wp2_with fail
          go_still_tail 12, (by kernel_rfl)
          change wpList _ _ _ _ _ WD.drew
          go_wp2_with fail
          go_roundw
          case rel => exact ⟨k + 1, m, c, _, ws ++ [(qx, mx)], by omega, by go_num, rfl, Lib.hid (by rw [HL.out, List.length_append]; rfl), by omega, HT2, HST.out, hbz.drew⟩
          case measure => simp [intOf]; omega
        · have HJ2 := Lib.hid (HJ.out.add HV.out HP.out (fun ws' q' e => by
            rw [HW.out] at e
            have e2 := List.append_inj_right' e rfl
            injection e2 with e3
            rw [← e3]; show qy + 1 < x; omega))
          have z5 : decide (x ≤ qy + 1) = false := decide_eq_false ht
          clear ht hJ2
          go_wp2_with fail
          go_quiet (fail)
          obtain ⟨WD, hWD⟩ : ∃ WD, WD = (wr.alloc (.cells #[.int .i64 x, .int .i64 y] 30)).drewN nq := ⟨_, rfl⟩
          have HOD : Hid (WD.ownsRow w.heap.size 30 2 (.slice (some ⟨g, 0, none⟩) m c) m (spanV zs)) := Lib.hid (by rw [hWD]; exact hownA)
          have HBD : Hid (Below w.heap.size w WD) := Lib.hid (by rw [hWD]; exact ⟨hbA.os, hbA.tape, hbA.output, hbA.size, hbA.block⟩)
          have k0 : WD.cell? ⟨wr.heap.size, 0, none⟩ = some (.int .i64 x) := by rw [hWD]; exact (box_cell wr x y _).1
          have k1 : WD.cell? ⟨wr.heap.size, 1, none⟩ = some (.int .i64 y) := by rw [hWD]; exact (box_cell wr x y _).2
          rw [← hWD]
          clear hWD hownA hbA hcell hfr z1 z5 s1 s2
          go_wp2_with (at_builtin; refine wpList_append_own _ rfl _ _ 24 rfl w.heap.size 30 i0 _ 2 16 Try.underlying24 hi0 hz0 hz1 hz2 rfl (by decide) _ _ _ rfl (HOD.out.alloc _) ⟨WD.heap.size, 0, none⟩ 1 1 [.int .i64 x, .int .i64 y] rfl rfl (two_cells _ _ _ _) (two_one _ _) ?b3 ?b4 ?b5 ?_)
          case b3 => unfold maxLen; omega
          case b4 => omega
          case b5 => have := HBD.out.size; simp; omega
          intro v' wz hown1 hgrow1 _
          rw [← spanV_one (x, y), ← spanV_app] at hown1
          obtain ⟨C', c', rfl⟩ := span_form hown1
          have hbz := (HBD.out.alloc HBD.out.size _).grown hgrow1 (by have := HBD.out.size; simp; omega) (fun x0 hx0 => (HOD.out.lt x0 hx0).1)
          go_wp2_with fail
          go_roundw
          case rel => exact ⟨k + 1, m + 1, c', C', zs ++ [(x, y)], by omega, by go_num, rfl, Lib.hid (by rw [List.length_append, ← HM.out]; rfl), by omega, HJ2, hown1, hbz⟩
          case measure => simp [intOf]; omega
    · obtain rfl : k = n := by omega
      have hj : Joined ys ys.length zs := by have h1 := HJ.out; rw [← H.out.1] at h1; exact h1
      have HJE := Lib.hid hj
      clear hj
      go_wp2_with fail
      go_ret
      exact ⟨zs, C, m, c, HM.out, HJE.out, rfl, hown, hbw⟩
end Go.Proofs.Ythlajgkelggnkaa
