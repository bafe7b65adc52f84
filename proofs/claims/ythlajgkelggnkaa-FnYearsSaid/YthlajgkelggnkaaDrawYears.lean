/-
  The contracts of spec.l02DrawYears, spec.DrawCountYears and spec.DrawHasYear.
-/
import Derived.Test.YthlajgkelggnkaaPick
import Derived.Test.YthlajgkelggnkaaMarkSp
namespace Go.Proofs.Ythlajgkelggnkaa
set_option linter.unusedVariables false
open Go.RowKit

theorem Src.past {w w' : World} {B len : Nat} {row : Option Nat} (h : Src w B len) (hg : w.grownBy w' row) (hr : ∀ x, row = some x → B < x) : Src w' B len := by
  obtain ⟨A', cap', a', s', hT, k1, k2, k3, k4, k5⟩ := h
  refine ⟨A', cap', a', s', (hg.block B hT.lt (fun e => by have := hr _ e.symm; omega)).trans hT, k1, k2, k3, k4, fun hp => ?_⟩
  obtain ⟨cb, co, hA, hlt, hbl, hc⟩ := k5 hp
  refine ⟨cb, co, hA, hlt, Nat.lt_of_lt_of_le hbl hg.size, fun j hj => ?_⟩
  obtain ⟨z, q0, q1, hz⟩ := hc j hj
  exact ⟨z, q0, q1, (World.cell?_of_block (a := ⟨cb, co + j, none⟩) (hg.block cb hbl (fun e => by have := hr _ e.symm; omega))).trans hz⟩
theorem grown_past {w a b : World} {B : Nat} {row : Option Nat} (h : w.grownBy a (some B)) (hg : a.grownBy b row) (hr : ∀ x, row = some x → w.heap.size ≤ x) : w.grownBy b (some B) :=
  ⟨hg.os.trans h.os, hg.tape.trans h.tape, hg.output.trans h.output, Nat.le_trans h.size hg.size, fun k hk hne => (hg.block k (Nat.lt_of_lt_of_le hk h.size) (fun e => by have := hr _ e.symm; omega)).trans (h.block k hk hne)⟩
def OwnRow (w0 w : World) (v : Value) (k : Nat) (xs : List Sp) : Prop := ∃ g c, v = .slice (some ⟨g, 0, none⟩) k c ∧ w0.heap.size ≤ g ∧ w.ownsRow w0.heap.size 30 2 (.slice (some ⟨g, 0, none⟩) k c) k (spanV xs)
theorem OwnRow.grown {w0 w w' : World} {v : Value} {k B : Nat} {xs : List Sp} (h : OwnRow w0 w v k xs) (hB : B < w0.heap.size) (hg : w.grownBy w' (some B)) : OwnRow w0 w' v k xs := by
  obtain ⟨g, c, hv, hb, ho⟩ := h
  exact ⟨g, c, hv, hb, ho.kept hg (.inr (by simp [Value.ownBlock]; omega))⟩
def YearsPost (w : World) (B len : Nat) (e : Ending) (w' : World) : Prop := ∃ (v : Value) (k : Nat) (xs : List Sp), k ≤ 13 ∧ e = .returned v ∧ OwnRow w w' v k xs ∧ Src w' B len ∧ w.grownBy w' (some B)

set_option maxHeartbeats 4000000 in
set_option maxRecDepth 100000 in
theorem cDrawYears (B len : Nat) (w : World) (hlen : len ≤ 1048576) (hB : B < w.heap.size) (h : Src w B len) :
    Calls Try.prog 29 #[.pointer (some ⟨B, 0, none⟩)] w (YearsPost w B len) := by
  obtain ⟨i0, hi0, hz0, hz1, hz2⟩ := info_parts info_span
  have hS1 := srcAlloc h (.cells #[] 30)
  have O1 : OwnRow w (w.alloc (.cells #[] 30)) (.slice (some ⟨w.heap.size, 0, none⟩) 0 0) 0 [] := ⟨w.heap.size, 0, rfl, Nat.le_refl _, World.ownsRow_lit (e := 30) (base := w.heap.size) (size := 2) w #[] 0 (Nat.le_refl _) (by decide) rfl⟩
  have C1 := Lib.hid (cNext B len 200 _ hlen (by omega) (by omega) hS1)
  have G1 : w.grownBy (w.alloc (.cells #[] 30)) (some B) := World.grownBy_alloc _ _ _
  have HO1 := Lib.hid O1
  clear h hS1 O1
  go_enter Try.func29, Try.ntmps29
  go_wp2_with fail
  refine C1.out.mono ?_
  rintro e w1 ⟨y0, hy0, hy1, rfl, hS2, g2⟩
  have hy2 : y0 < 200 := by omega
  have G2 := G1.trans g2
  have HO2 := Lib.hid (HO1.out.grown hB g2)
  have C2 := Lib.hid (cNext B len 6 w1 hlen (by omega) (by omega) hS2)
  clear hS2 g2 G1 hy1 C1 HO1
  go_wp2_with fail
  refine C2.out.mono ?_
  rintro e w2 ⟨r, hr0, hr1, rfl, hS3, g3⟩
  have hr2 : r < 6 := by omega
  obtain ⟨n0, rfl⟩ : ∃ k : Nat, r = k := ⟨r.toNat, by omega⟩
  have hn0 : n0 ≤ 5 := by omega
  have HG3 := Lib.hid (G2.trans g3)
  have HO3 := Lib.hid (HO2.out.grown hB g3)
  have HS3 := Lib.hid hS3
  clear hS3 g3 G2 hr1 hr2 C2 HO2
  go_wp2_with fail
  go_loopw [3, 4, 5] (fun o y i wr => ∃ (m k : Nat) (t : Int) (xs : List Sp), k + m ≤ 5 ∧ i = .int .i64 m ∧ y = .int .i64 t ∧ 1000 ≤ t ∧ t ≤ 1200 + 110 * (k : Int) ∧ Hid (OwnRow w wr o k xs) ∧ Hid (Src wr B len) ∧ Hid (w.grownBy wr (some B))) (fun _ _ i _ => (intOf i).toNat)
  case atStart => exact ⟨n0, 0, 1000 + y0, [], by omega, rfl, rfl, by omega, by omega, HO3, HS3, HG3⟩
  case round =>
    clear HO3 HS3 HG3
    obtain ⟨m, k, t, xs, hkm, rfl, rfl, ht0, ht1, HO, HS, HG⟩ := hrel
    by_cases hm : 0 < m
    · have z1 : decide ((0 : Int) < (m : Int)) = true := decide_eq_true (by omega)
      have z1' : decide (0 < m) = true := decide_eq_true hm
      have C3 := Lib.hid (cNext B len 60 wr hlen (by omega) (by omega) HS.out)
      go_wp2_with fail
      refine C3.out.mono ?_
      rintro e w4 ⟨a, ha0, ha1, rfl, hS4, g4⟩
      have ha2 : a < 60 := by omega
      have HO4 := HO.out.grown hB g4
      have G4 := Lib.hid (HG.out.trans g4)
      have HS4 := Lib.hid hS4
      obtain ⟨g, c, hv, hgb, hown⟩ := HO4
      subst hv
      clear hS4 g4 C3 ha1
      go_wp2_with (at_builtin; refine wpList_append_own _ rfl _ _ 24 rfl w.heap.size 30 i0 _ 2 16 Try.underlying24 hi0 hz0 hz1 hz2 rfl (by decide) _ _ _ rfl (hown.alloc _) ⟨w4.heap.size, 0, none⟩ 1 1 [.int .i64 t, .int .i64 (t + a)] rfl rfl (two_cells _ _ _ _) (two_one _ _) ?d23 ?d24 ?d25 ?_)
      case d23 => unfold maxLen; omega
      case d24 => omega
      case d25 => have := G4.out.size; simp; omega
      intro v' w5 hown1 hgrow1 _
      rw [← spanV_one (t, t + a), ← spanV_app] at hown1
      have hr : ∀ x, (Value.slice (some ⟨g, 0, none⟩) k c).ownBlock = some x → w.heap.size ≤ x := fun x hx => (hown.lt x hx).1
      have G5 := grown_past (G4.out.trans (World.grownBy_alloc w4 (.cells #[.int .i64 t, .int .i64 (t + a)] 30) _)) hgrow1 hr
      have S5 := (srcAlloc HS4.out (.cells #[.int .i64 t, .int .i64 (t + a)] 30)).past hgrow1 (fun x hx => Nat.lt_of_lt_of_le hB (hr x hx))
      obtain ⟨g', c', hv', hgb', hlt'⟩ := hown1.form (by omega)
      subst hv'
      have O5 : OwnRow w w5 (.slice (some ⟨g', 0, none⟩) (k + 1) c') (k + 1) (xs ++ [(t, t + a)]) := ⟨g', c', rfl, hgb', hown1⟩
      have C5 := Lib.hid (cNext B len 40 w5 hlen (by omega) (by omega) S5)
      have HO5 := Lib.hid O5
      have HG5 := Lib.hid G5
      clear hown hown1 hgrow1 S5 O5 G5 hr
      go_wp2_with fail
      refine C5.out.mono ?_
      rintro e w6 ⟨b, hb0, hb1, rfl, hS6, g6⟩
      have hb2 : b < 40 := by omega
      have HO6 := Lib.hid (HO5.out.grown hB g6)
      have HG6 := Lib.hid (HG5.out.trans g6)
      have HS6 := Lib.hid hS6
      clear hS6 g6 C5 hb1 HO5 HG5
      go_wp2_with fail
      go_roundw
      case rel => exact ⟨m - 1, k + 1, t + a + 2 + b, _, by omega, by go_num, rfl, by omega, by omega, HO6, HS6, HG6⟩
      case measure => simp [intOf]; omega
    · have z1 : decide ((0 : Int) < (m : Int)) = false := decide_eq_false (by omega)
      have z1' : decide (0 < m) = false := decide_eq_false hm
      have C3 := Lib.hid (cNext B len 24 wr hlen (by omega) (by omega) HS.out)
      go_wp2_with fail
      refine C3.out.mono ?_
      rintro e w4 ⟨a, ha0, ha1, rfl, hS4, g4⟩
      have HO4 := HO.out.grown hB g4
      have G4 := Lib.hid (HG.out.trans g4)
      have HS4 := Lib.hid hS4
      have hB4 : B < w4.heap.size := hS4.lt
      clear hS4 g4 C3 ha1
      by_cases hc0 : a = 0
      · have z2 : (a == 0) = true := by simp [hc0]
        have C4 := Lib.hid (cDraw2 B len w4 hlen hB4 HS4.out)
        have HO4 := Lib.hid HO4
        clear hc0
        go_wp2_with fail
        refine C4.out.mono ?_
        rintro e w5 ⟨x, y, hx0, hx1, hy0', hy1', rfl, hS5, g5⟩
        have HO5 := HO4.out.grown hB g5
        have G5 := Lib.hid (G4.out.trans g5)
        have HS5 := Lib.hid hS5
        obtain ⟨g, c, hv, hgb, hown⟩ := HO5
        subst hv
        clear hS5 g5 C4 HO4
        go_wp2_with (at_builtin; refine wpList_append_own _ rfl _ _ 24 rfl w.heap.size 30 i0 _ 2 16 Try.underlying24 hi0 hz0 hz1 hz2 rfl (by decide) _ _ _ rfl (hown.alloc _) ⟨w5.heap.size, 0, none⟩ 1 1 [.int .i64 x, .int .i64 y] rfl rfl (two_cells _ _ _ _) (two_one _ _) ?e23 ?e24 ?e25 ?_)
        case e23 => unfold maxLen; omega
        case e24 => omega
        case e25 => have := G5.out.size; simp; omega
        intro v' w6 hown1 hgrow1 _
        rw [← spanV_one (x, y), ← spanV_app] at hown1
        have hr : ∀ x, (Value.slice (some ⟨g, 0, none⟩) k c).ownBlock = some x → w.heap.size ≤ x := fun x hx => (hown.lt x hx).1
        have G6 := grown_past (G5.out.trans (World.grownBy_alloc w5 (.cells #[.int .i64 x, .int .i64 y] 30) _)) hgrow1 hr
        have S6 := (srcAlloc HS5.out (.cells #[.int .i64 x, .int .i64 y] 30)).past hgrow1 (fun x hx => Nat.lt_of_lt_of_le hB (hr x hx))
        obtain ⟨g', c', hv', hgb', hlt'⟩ := hown1.form (by omega)
        subst hv'
        have O6 : OwnRow w w6 (.slice (some ⟨g', 0, none⟩) (k + 1) c') (k + 1) (xs ++ [(x, y)]) := ⟨g', c', rfl, hgb', hown1⟩
        have HP := Lib.hid (show YearsPost w B len (.returned (.slice (some ⟨g', 0, none⟩) (k + 1) c')) w6 from ⟨_, k + 1, _, by omega, rfl, O6, S6, G6⟩)
        clear hown hown1 hgrow1 S6 O6 G6 hr
        go_wp2_with fail
        go_ret
        exact HP.out
      · have z2 : (a == 0) = false := by rw [beq_eq_false_iff_ne]; exact hc0
        clear hc0
        by_cases hc1 : a = 1
        · have z3 : (a == 1) = true := by simp [hc1]
          have HO4 := Lib.hid HO4
          clear hc1
          go_wp2_with fail
          go_loopw [3, 4] (fun o y wr => ∃ (k : Nat) (t : Int) (xs : List Sp), k ≤ 13 ∧ y = .int .i64 t ∧ 1000 ≤ t ∧ t ≤ 2000 + 2 * (k : Int) ∧ Hid (OwnRow w wr o k xs) ∧ Hid (Src wr B len) ∧ Hid (w.grownBy wr (some B))) (fun o _ _ => match o with | .slice _ n _ => 13 - n | _ => 0)
          case atStart => exact ⟨k, t, xs, by omega, rfl, by omega, by omega, HO4, HS4, G4⟩
          case round =>
            clear HO4 HS4 G4 HO HS HG
            obtain ⟨k, t, xs, hk, rfl, ht0, ht1, HO, HS, HG⟩ := hrel
            have HO' := HO.out
            obtain ⟨g, c, hv, hgb, hown⟩ := HO'
            subst hv
            have C5 := Lib.hid (cNext B len 2 wr hlen (by omega) (by omega) HS.out)
            go_wp2_with fail
            refine C5.out.mono ?_
            rintro e w5 ⟨p, hp0, hp1, rfl, hS5, g5⟩
            have hp2 : p < 2 := by omega
            have hown5 := hown.kept g5 (.inr (by simp [Value.ownBlock]; omega))
            have HG5 := Lib.hid (HG.out.trans g5)
            have HS5 := Lib.hid hS5
            clear hS5 g5 C5 hp1 hown
            by_cases hlt : (k : Int) < 12 + p
            · have z4 : decide ((k : Int) < 12 + p) = true := decide_eq_true hlt
              go_wp2_with (at_builtin; refine wpList_append_own _ rfl _ _ 24 rfl w.heap.size 30 i0 _ 2 16 Try.underlying24 hi0 hz0 hz1 hz2 rfl (by decide) _ _ _ rfl (hown5.alloc _) ⟨w5.heap.size, 0, none⟩ 1 1 [.int .i64 t, .int .i64 t] rfl rfl (two_cells _ _ _ _) (two_one _ _) ?f23 ?f24 ?f25 ?_)
              case f23 => unfold maxLen; omega
              case f24 => omega
              case f25 => have := HG5.out.size; simp; omega
              intro v' w6 hown1 hgrow1 _
              rw [← spanV_one (t, t), ← spanV_app] at hown1
              have hr : ∀ x, (Value.slice (some ⟨g, 0, none⟩) k c).ownBlock = some x → w.heap.size ≤ x := fun x hx => (hown5.lt x hx).1
              have G6 := grown_past (HG5.out.trans (World.grownBy_alloc w5 (.cells #[.int .i64 t, .int .i64 t] 30) _)) hgrow1 hr
              have S6 := (srcAlloc HS5.out (.cells #[.int .i64 t, .int .i64 t] 30)).past hgrow1 (fun x hx => Nat.lt_of_lt_of_le hB (hr x hx))
              obtain ⟨g', c', hv', hgb', hlt'⟩ := hown1.form (by omega)
              subst hv'
              have O6 : OwnRow w w6 (.slice (some ⟨g', 0, none⟩) (k + 1) c') (k + 1) (xs ++ [(t, t)]) := ⟨g', c', rfl, hgb', hown1⟩
              have HO6 := Lib.hid O6
              have HS6 := Lib.hid S6
              have HG6 := Lib.hid G6
              clear hown5 hown1 hgrow1 S6 O6 G6 hr
              go_wp2_with fail
              go_roundw
              case rel => exact ⟨k + 1, t + 2, _, by omega, rfl, by omega, by omega, HO6, HS6, HG6⟩
              case measure => simp; omega
            · have z4 : decide ((k : Int) < 12 + p) = false := decide_eq_false hlt
              have HP := Lib.hid (show YearsPost w B len (.returned (.slice (some ⟨g, 0, none⟩) k c)) w5 from ⟨_, k, _, hk, rfl, ⟨g, c, rfl, hgb, hown5⟩, HS5.out, HG5.out⟩)
              clear hown5
              go_wp2_with fail
              go_ret
              exact HP.out
        · have z3 : (a == 1) = false := by rw [beq_eq_false_iff_ne]; exact hc1
          have HP := Lib.hid (fun e (he : e = _) => (show YearsPost w B len e w4 from ⟨_, k, _, by omega, he, HO4, HS4.out, G4.out⟩))
          clear hc1 HO4
          go_wp2_with fail
          go_ret
          exact HP.out _ rfl
end Go.Proofs.Ythlajgkelggnkaa
