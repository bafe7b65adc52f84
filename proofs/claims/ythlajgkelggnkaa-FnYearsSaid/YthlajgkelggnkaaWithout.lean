/-
  The contract of impl's Span.without.
-/
import Derived.Test.YthlajgkelggnkaaCutPlain
import Derived.Test.YthlajgkelggnkaaBuild
import Derived.Test.YthlajgkelggnkaaDoMeet
namespace Go.Proofs.Ythlajgkelggnkaa
set_option linter.unusedVariables false
open Go.RowKit

def CutPost (x y u v : Int) (w : World) (e : Ending) (w' : World) : Prop :=
  ∃ (A : Option Addr) (c : Nat), e = .returned (.slice A (cutS u v (x, y)).length c) ∧ w'.ownsRow w.heap.size 30 2 (.slice A (cutS u v (x, y)).length c) (cutS u v (x, y)).length (spanV (cutS u v (x, y))) ∧ Below w.heap.size w w'
theorem idx0 (a b c d : Int) (W : World) : (Instr.index 79 (.agg #[.int .i64 a, .int .i64 b, .int .i64 c, .int .i64 d]) (.int .i64 0)).run Try.prog W = .ok (.agg #[.int .i64 a, .int .i64 b]) W := by kernel_rfl
theorem idx1 (a b c d : Int) (W : World) : (Instr.index 79 (.agg #[.int .i64 a, .int .i64 b, .int .i64 c, .int .i64 d]) (.int .i64 1)).run Try.prog W = .ok (.agg #[.int .i64 c, .int .i64 d]) W := by kernel_rfl

theorem BoxAt.grown {w w' : World} {B : Nat} {x y : Int} {row : Option Nat} (h : BoxAt w B x y) (hg : w.grownBy w' row) (hne : some B ≠ row) : BoxAt w' B x y :=
  ⟨Nat.lt_of_lt_of_le h.1 hg.size, hg.cell (a := ⟨B, 0, none⟩) h.2.1 hne, hg.cell (a := ⟨B, 1, none⟩) h.2.2 hne⟩
set_option maxHeartbeats 2000000 in
set_option maxRecDepth 100000 in
theorem cWithout (x y u v : Int) (w : World) (h1 : spB x y = true) (h2 : spB u v = true) :
    Calls Try.prog 34 #[.agg #[.int .i64 x, .int .i64 y], .agg #[.int .i64 u, .int .i64 v]] w (CutPost x y u v w) := by
  obtain ⟨i0, hi0, hz0, hz1, hz2⟩ := info_parts info_span
  have b1 := spB_bd h1
  have b2 := spB_bd h2
  have B2 : Below w.heap.size w (boxes w x y u v) := ((Below.refl _ _).alloc (Nat.le_refl _) _).alloc (by simp) _
  have K1 : BoxAt (boxes w x y u v) w.heap.size x y := (BoxAt.new w x y _).alloc _
  have C1 := Lib.hid (fun W => cMeet x y (-3000) (u - 1) W)
  have C2 := Lib.hid (fun W => cMeet x y (v + 1) 3000 W)
  rw [show max x (-3000) = x by omega] at C1
  rw [show min y 3000 = y by omega] at C2
  obtain ⟨mn, hmn⟩ : ∃ mn, mn = min y (u - 1) := ⟨_, rfl⟩
  obtain ⟨mx, hmx⟩ : ∃ mx, mx = max x (v + 1) := ⟨_, rfl⟩
  rw [← hmn] at C1
  rw [← hmx] at C2
  have V1 := Lib.hid (fun W => cValid x mn W)
  have V2 := Lib.hid (fun W => cValid mx y W)
  have q1 : -3000 ≤ u := b2.1
  have q2 : u ≤ 3000 := by omega
  have q3 : -3000 ≤ v := by omega
  have q4 : v ≤ 3000 := b2.2.2
  have HI0 := Lib.hid (fun W => idx0 (-3000) (u - 1) (v + 1) 3000 W)
  have HI1 := Lib.hid (fun W => idx1 (-3000) (u - 1) (v + 1) 3000 W)
  by_cases hx : x < u
  · have hv1 : spB x mn = true := spB_mk b1.1 (by omega) (by omega)
    rw [hv1] at V1
    by_cases hy : v < y
    · have hv2 : spB mx y = true := spB_mk (by omega) (by omega) b1.2.2
      rw [hv2] at V2
      have HL : Hid (cutS u v (x, y) = [(x, mn)] ++ [(mx, y)]) := Lib.hid (by unfold cutS; rw [if_pos hx, if_pos hy, hmn, hmx])
      clear b1 b2 hmn hmx hv1 hv2 h1 h2 hx hy
      go_enter Try.func34, Try.ntmps34
      go_wp2_with fail
      refine wp_loop_rounds 3 ?_
      rw [rounds_succ]
      have hi := HI0.out
      go_wp2_with fail
      refine (C1.out _).mono ?_
      rintro e wa1 ⟨rfl, hca1⟩
      have Ba1 := B2.alloc B2.size (.cells #[.int .i64 (-3000), .int .i64 (u - 1)] 30)
      have Bb1 := Ba1.trans (hca1.mono Ba1.size)
      have Ka1 := (K1.alloc (.cells #[.int .i64 (-3000), .int .i64 (u - 1)] 30)).below hca1
      have Na1 := BoxAt.new wa1 x mn 30
      have Kb1 := Ka1.alloc (.cells #[.int .i64 x, .int .i64 mn] 30)
      have Bc1 := Bb1.alloc Bb1.size (.cells #[.int .i64 x, .int .i64 mn] 30)
      go_wp2_with fail
      refine (V1.out _).mono ?_
      rintro e wb1 ⟨rfl, hcb1⟩
      have Bd1 := Bc1.trans (hcb1.mono Bc1.size)
      have Kc1 := Kb1.below hcb1
      obtain ⟨_, n0, n1⟩ := Na1.below hcb1
      have Oc1 := World.ownsRow_nil wb1 w.heap.size 30 2
      go_wp2_with (at_builtin; refine wpList_append_own_at _ rfl _ _ 24 rfl w.heap.size 30 i0 _ 2 16 Try.underlying24 hi0 hz0 hz1 hz2 rfl (by decide) _ _ _ rfl (Oc1.alloc _) ⟨wb1.heap.size, 0, none⟩ 1 1 [.int .i64 x, .int .i64 mn] rfl rfl (two_cells _ _ _ _) (two_one _ _) (by unfold maxLen; omega) (by omega) (by have := Bd1.size; simp; omega) ?_)
      intro v1 wc1 hown1 hgrow1 _ _
      obtain ⟨A1, c1, rfl⟩ := span_form hown1
      have Be1 := (Bd1.alloc Bd1.size _).grown hgrow1 (by have := Bd1.size; simp; omega) (fun k hk => (Oc1.lt k hk).1)
      have Kd1 := (Kc1.alloc _).grown hgrow1 (by simp [Value.ownBlock])
      clear hi
      obtain ⟨_, s0, s1⟩ := id Kd1
      go_wp2_with fail
      rw [rounds_succ]
      have hi := HI1.out
      go_wp2_with fail
      refine (C2.out _).mono ?_
      rintro e wa2 ⟨rfl, hca2⟩
      have Ba2 := Be1.alloc Be1.size (.cells #[.int .i64 (v + 1), .int .i64 (3000)] 30)
      have Bb2 := Ba2.trans (hca2.mono Ba2.size)
      have Ka2 := (Kd1.alloc (.cells #[.int .i64 (v + 1), .int .i64 (3000)] 30)).below hca2
      have Na2 := BoxAt.new wa2 mx y 30
      have Kb2 := Ka2.alloc (.cells #[.int .i64 mx, .int .i64 y] 30)
      have Bc2 := Bb2.alloc Bb2.size (.cells #[.int .i64 mx, .int .i64 y] 30)
      have Oa2 := (hown1.alloc (.cells #[.int .i64 (v + 1), .int .i64 (3000)] 30)).kept (below_grown_ hca2 none) (by cases hC : (Value.slice A1 (0 + 1) c1).ownBlock <;> simp)
      have Ob2 := Oa2.alloc (.cells #[.int .i64 mx, .int .i64 y] 30)
      go_wp2_with fail
      refine (V2.out _).mono ?_
      rintro e wb2 ⟨rfl, hcb2⟩
      have Bd2 := Bc2.trans (hcb2.mono Bc2.size)
      have Kc2 := Kb2.below hcb2
      obtain ⟨_, n0, n1⟩ := Na2.below hcb2
      have Oc2 := Ob2.kept (below_grown_ hcb2 none) (by cases hC : (Value.slice A1 (0 + 1) c1).ownBlock <;> simp)
      go_wp2_with (at_builtin; refine wpList_append_own_at _ rfl _ _ 24 rfl w.heap.size 30 i0 _ 2 16 Try.underlying24 hi0 hz0 hz1 hz2 rfl (by decide) _ _ _ rfl (Oc2.alloc _) ⟨wb2.heap.size, 0, none⟩ 1 1 [.int .i64 mx, .int .i64 y] rfl rfl (two_cells _ _ _ _) (two_one _ _) (by unfold maxLen; omega) (by omega) (by have := Bd2.size; simp; omega) ?_)
      intro v2 wc2 hown2 hgrow2 _ _
      obtain ⟨A2, c2, rfl⟩ := span_form hown2
      have Be2 := (Bd2.alloc Bd2.size _).grown hgrow2 (by have := Bd2.size; simp; omega) (fun k hk => (Oc2.lt k hk).1)
      clear hi
      go_wp2_with fail
      rw [rounds_succ]
      go_wp2_with fail
      go_ret
      refine ⟨A2, c2, ?_, ?_, Be2⟩
      · rw [HL.out]; rfl
      · rw [HL.out]; exact hown2
    · have hv2 : spB mx y = false := spB_mid (by omega)
      rw [hv2] at V2
      have HL : Hid (cutS u v (x, y) = [(x, mn)]) := Lib.hid (by unfold cutS; rw [if_pos hx, if_neg hy, hmn]; rfl)
      clear b1 b2 hmn hmx hv1 hv2 h1 h2 hx hy
      go_enter Try.func34, Try.ntmps34
      go_wp2_with fail
      refine wp_loop_rounds 3 ?_
      rw [rounds_succ]
      have hi := HI0.out
      go_wp2_with fail
      refine (C1.out _).mono ?_
      rintro e wa1 ⟨rfl, hca1⟩
      have Ba1 := B2.alloc B2.size (.cells #[.int .i64 (-3000), .int .i64 (u - 1)] 30)
      have Bb1 := Ba1.trans (hca1.mono Ba1.size)
      have Ka1 := (K1.alloc (.cells #[.int .i64 (-3000), .int .i64 (u - 1)] 30)).below hca1
      have Na1 := BoxAt.new wa1 x mn 30
      have Kb1 := Ka1.alloc (.cells #[.int .i64 x, .int .i64 mn] 30)
      have Bc1 := Bb1.alloc Bb1.size (.cells #[.int .i64 x, .int .i64 mn] 30)
      go_wp2_with fail
      refine (V1.out _).mono ?_
      rintro e wb1 ⟨rfl, hcb1⟩
      have Bd1 := Bc1.trans (hcb1.mono Bc1.size)
      have Kc1 := Kb1.below hcb1
      obtain ⟨_, n0, n1⟩ := Na1.below hcb1
      have Oc1 := World.ownsRow_nil wb1 w.heap.size 30 2
      go_wp2_with (at_builtin; refine wpList_append_own_at _ rfl _ _ 24 rfl w.heap.size 30 i0 _ 2 16 Try.underlying24 hi0 hz0 hz1 hz2 rfl (by decide) _ _ _ rfl (Oc1.alloc _) ⟨wb1.heap.size, 0, none⟩ 1 1 [.int .i64 x, .int .i64 mn] rfl rfl (two_cells _ _ _ _) (two_one _ _) (by unfold maxLen; omega) (by omega) (by have := Bd1.size; simp; omega) ?_)
      intro v1 wc1 hown1 hgrow1 _ _
      obtain ⟨A1, c1, rfl⟩ := span_form hown1
      have Be1 := (Bd1.alloc Bd1.size _).grown hgrow1 (by have := Bd1.size; simp; omega) (fun k hk => (Oc1.lt k hk).1)
      have Kd1 := (Kc1.alloc _).grown hgrow1 (by simp [Value.ownBlock])
      clear hi
      obtain ⟨_, s0, s1⟩ := id Kd1
      go_wp2_with fail
      rw [rounds_succ]
      have hi := HI1.out
      go_wp2_with fail
      refine (C2.out _).mono ?_
      rintro e wa2 ⟨rfl, hca2⟩
      have Ba2 := Be1.alloc Be1.size (.cells #[.int .i64 (v + 1), .int .i64 (3000)] 30)
      have Bb2 := Ba2.trans (hca2.mono Ba2.size)
      have Ka2 := (Kd1.alloc (.cells #[.int .i64 (v + 1), .int .i64 (3000)] 30)).below hca2
      have Na2 := BoxAt.new wa2 mx y 30
      have Kb2 := Ka2.alloc (.cells #[.int .i64 mx, .int .i64 y] 30)
      have Bc2 := Bb2.alloc Bb2.size (.cells #[.int .i64 mx, .int .i64 y] 30)
      have Oa2 := (hown1.alloc (.cells #[.int .i64 (v + 1), .int .i64 (3000)] 30)).kept (below_grown_ hca2 none) (by cases hC : (Value.slice A1 (0 + 1) c1).ownBlock <;> simp)
      have Ob2 := Oa2.alloc (.cells #[.int .i64 mx, .int .i64 y] 30)
      go_wp2_with fail
      refine (V2.out _).mono ?_
      rintro e wb2 ⟨rfl, hcb2⟩
      have Bd2 := Bc2.trans (hcb2.mono Bc2.size)
      have Kc2 := Kb2.below hcb2
      obtain ⟨_, n0, n1⟩ := Na2.below hcb2
      have Oc2 := Ob2.kept (below_grown_ hcb2 none) (by cases hC : (Value.slice A1 (0 + 1) c1).ownBlock <;> simp)
      clear hi
      go_wp2_with fail
      rw [rounds_succ]
      go_wp2_with fail
      go_ret
      refine ⟨A1, c1, ?_, ?_, Bd2⟩
      · rw [HL.out]; rfl
      · rw [HL.out]; exact Oc2
  · have hv1 : spB x mn = false := spB_mid (by omega)
    rw [hv1] at V1
    by_cases hy : v < y
    · have hv2 : spB mx y = true := spB_mk (by omega) (by omega) b1.2.2
      rw [hv2] at V2
      have HL : Hid (cutS u v (x, y) = [(mx, y)]) := Lib.hid (by unfold cutS; rw [if_neg hx, if_pos hy, hmx]; rfl)
      clear b1 b2 hmn hmx hv1 hv2 h1 h2 hx hy
      go_enter Try.func34, Try.ntmps34
      go_wp2_with fail
      refine wp_loop_rounds 3 ?_
      rw [rounds_succ]
      have hi := HI0.out
      go_wp2_with fail
      refine (C1.out _).mono ?_
      rintro e wa1 ⟨rfl, hca1⟩
      have Ba1 := B2.alloc B2.size (.cells #[.int .i64 (-3000), .int .i64 (u - 1)] 30)
      have Bb1 := Ba1.trans (hca1.mono Ba1.size)
      have Ka1 := (K1.alloc (.cells #[.int .i64 (-3000), .int .i64 (u - 1)] 30)).below hca1
      have Na1 := BoxAt.new wa1 x mn 30
      have Kb1 := Ka1.alloc (.cells #[.int .i64 x, .int .i64 mn] 30)
      have Bc1 := Bb1.alloc Bb1.size (.cells #[.int .i64 x, .int .i64 mn] 30)
      go_wp2_with fail
      refine (V1.out _).mono ?_
      rintro e wb1 ⟨rfl, hcb1⟩
      have Bd1 := Bc1.trans (hcb1.mono Bc1.size)
      have Kc1 := Kb1.below hcb1
      obtain ⟨_, n0, n1⟩ := Na1.below hcb1
      have Oc1 := World.ownsRow_nil wb1 w.heap.size 30 2
      clear hi
      obtain ⟨_, s0, s1⟩ := id Kc1
      go_wp2_with fail
      rw [rounds_succ]
      have hi := HI1.out
      go_wp2_with fail
      refine (C2.out _).mono ?_
      rintro e wa2 ⟨rfl, hca2⟩
      have Ba2 := Bd1.alloc Bd1.size (.cells #[.int .i64 (v + 1), .int .i64 (3000)] 30)
      have Bb2 := Ba2.trans (hca2.mono Ba2.size)
      have Ka2 := (Kc1.alloc (.cells #[.int .i64 (v + 1), .int .i64 (3000)] 30)).below hca2
      have Na2 := BoxAt.new wa2 mx y 30
      have Kb2 := Ka2.alloc (.cells #[.int .i64 mx, .int .i64 y] 30)
      have Bc2 := Bb2.alloc Bb2.size (.cells #[.int .i64 mx, .int .i64 y] 30)
      go_wp2_with fail
      refine (V2.out _).mono ?_
      rintro e wb2 ⟨rfl, hcb2⟩
      have Bd2 := Bc2.trans (hcb2.mono Bc2.size)
      have Kc2 := Kb2.below hcb2
      obtain ⟨_, n0, n1⟩ := Na2.below hcb2
      have Oc2 := World.ownsRow_nil wb2 w.heap.size 30 2
      go_wp2_with (at_builtin; refine wpList_append_own_at _ rfl _ _ 24 rfl w.heap.size 30 i0 _ 2 16 Try.underlying24 hi0 hz0 hz1 hz2 rfl (by decide) _ _ _ rfl (Oc2.alloc _) ⟨wb2.heap.size, 0, none⟩ 1 1 [.int .i64 mx, .int .i64 y] rfl rfl (two_cells _ _ _ _) (two_one _ _) (by unfold maxLen; omega) (by omega) (by have := Bd2.size; simp; omega) ?_)
      intro v2 wc2 hown2 hgrow2 _ _
      obtain ⟨A2, c2, rfl⟩ := span_form hown2
      have Be2 := (Bd2.alloc Bd2.size _).grown hgrow2 (by have := Bd2.size; simp; omega) (fun k hk => (Oc2.lt k hk).1)
      clear hi
      go_wp2_with fail
      rw [rounds_succ]
      go_wp2_with fail
      go_ret
      refine ⟨A2, c2, ?_, ?_, Be2⟩
      · rw [HL.out]; rfl
      · rw [HL.out]; exact hown2
    · have hv2 : spB mx y = false := spB_mid (by omega)
      rw [hv2] at V2
      have HL : Hid (cutS u v (x, y) = []) := Lib.hid (by unfold cutS; rw [if_neg hx, if_neg hy]; rfl)
      clear b1 b2 hmn hmx hv1 hv2 h1 h2 hx hy
      go_enter Try.func34, Try.ntmps34
      go_wp2_with fail
      refine wp_loop_rounds 3 ?_
      rw [rounds_succ]
      have hi := HI0.out
      go_wp2_with fail
      refine (C1.out _).mono ?_
      rintro e wa1 ⟨rfl, hca1⟩
      have Ba1 := B2.alloc B2.size (.cells #[.int .i64 (-3000), .int .i64 (u - 1)] 30)
      have Bb1 := Ba1.trans (hca1.mono Ba1.size)
      have Ka1 := (K1.alloc (.cells #[.int .i64 (-3000), .int .i64 (u - 1)] 30)).below hca1
      have Na1 := BoxAt.new wa1 x mn 30
      have Kb1 := Ka1.alloc (.cells #[.int .i64 x, .int .i64 mn] 30)
      have Bc1 := Bb1.alloc Bb1.size (.cells #[.int .i64 x, .int .i64 mn] 30)
      go_wp2_with fail
      refine (V1.out _).mono ?_
      rintro e wb1 ⟨rfl, hcb1⟩
      have Bd1 := Bc1.trans (hcb1.mono Bc1.size)
      have Kc1 := Kb1.below hcb1
      obtain ⟨_, n0, n1⟩ := Na1.below hcb1
      have Oc1 := World.ownsRow_nil wb1 w.heap.size 30 2
      clear hi
      obtain ⟨_, s0, s1⟩ := id Kc1
      go_wp2_with fail
      rw [rounds_succ]
      have hi := HI1.out
      go_wp2_with fail
      refine (C2.out _).mono ?_
      rintro e wa2 ⟨rfl, hca2⟩
      have Ba2 := Bd1.alloc Bd1.size (.cells #[.int .i64 (v + 1), .int .i64 (3000)] 30)
      have Bb2 := Ba2.trans (hca2.mono Ba2.size)
      have Ka2 := (Kc1.alloc (.cells #[.int .i64 (v + 1), .int .i64 (3000)] 30)).below hca2
      have Na2 := BoxAt.new wa2 mx y 30
      have Kb2 := Ka2.alloc (.cells #[.int .i64 mx, .int .i64 y] 30)
      have Bc2 := Bb2.alloc Bb2.size (.cells #[.int .i64 mx, .int .i64 y] 30)
      go_wp2_with fail
      refine (V2.out _).mono ?_
      rintro e wb2 ⟨rfl, hcb2⟩
      have Bd2 := Bc2.trans (hcb2.mono Bc2.size)
      have Kc2 := Kb2.below hcb2
      obtain ⟨_, n0, n1⟩ := Na2.below hcb2
      have Oc2 := World.ownsRow_nil wb2 w.heap.size 30 2
      clear hi
      go_wp2_with fail
      rw [rounds_succ]
      go_wp2_with fail
      go_ret
      refine ⟨none, 0, ?_, ?_, Bd2⟩
      · rw [HL.out]; rfl
      · rw [HL.out]; exact Oc2
end Go.Proofs.Ythlajgkelggnkaa
