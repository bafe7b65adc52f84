/-
  The law of names' texts: a name is recovered from its text.
-/
import Derived.Test.YthlilfdndpnbkaaGreatDoorMg12
import Derived.Test.YthlilfdndpnbkaaGreatDoorRd9R
import Derived.Test.YthlilfdndpnbkaaGreatDoorRd9S
import Derived.Test.YthlilfdndpnbkaaGreatDoorBig
import Derived.Test.YthlilfdndpnbkaaGreatDoorCodeArg
import Derived.Test.YthlilfdndpnbkaaGreatDoorSp
namespace Go.Proofs.YthlilfdndpnbkaaGreatDoor
set_option linter.unusedVariables false
open Go.RowKit

theorem Sp.codeZ {w : World} {A : Option Addr} {len : Nat} (h : CodeIn w A len) : Sp 0 w.heap.size (fun W => CodeIn W A len) w := ⟨Nat.le_refl _, fun W hW => h.belowZ hW.below⟩
theorem Sp.tb {w : World} {b : Nat} {t : TypeId} {cs : Array Value} (h : TabAt w b t cs) : Sp 0 w.heap.size (fun W => TabAt W b t cs) w := ⟨Nat.le_refl _, fun W hW => (hW.below.block b h.lt).trans h⟩
theorem nm_cellsZ {V : World} {b : Nat} {t : TypeId} {x : Nm} (h : TabAt V b t (celN x)) : V.cell? ⟨b, 0, none⟩ = some (.string x.t) ∧ V.cell? ⟨b, 1, none⟩ = some (.string x.l) ∧ V.cell? ⟨b, 2, none⟩ = some (.int .i64 x.s) ∧ V.cell? ⟨b, 3, none⟩ = some (.int .i64 x.f) ∧ V.cell? ⟨b, 4, none⟩ = some (.int .i64 x.u) :=
  ⟨(h.cell 0).trans rfl, (h.cell 1).trans rfl, (h.cell 2).trans rfl, (h.cell 3).trans rfl, (h.cell 4).trans rfl⟩
theorem alloc_belowZ (w : World) (o : Obj) : Below w.heap.size w (w.alloc o) := (Below.refl _ _).alloc (Nat.le_refl _) _
theorem rd_facts {s : ByteArray} (h : rdC s = 0) : ntT (rdF s) = s ∧ ntC (rdF s) = 0 ∧ (rdF s).t.size ≤ s.size ∧ (rdF s).l.size ≤ s.size := by
  by_cases hx : ∃ n : Nm, nmB n = true ∧ ntB n = s
  · obtain ⟨n, h1, h2⟩ := hx
    obtain ⟨e1, e2⟩ := rd_hit h1 h2
    rw [e1, ntT_ok h1, ntC_ok h1]
    refine ⟨h2, rfl, ?_, ?_⟩
    all_goals
      rw [← h2]
      unfold ntB
      rw [ByteArray.size_append, ByteArray.size_append, ByteArray.size_append, ByteArray.size_append, ByteArray.size_append, ByteArray.size_append]
      omega
  · have := (rd_miss (s := s) (fun n h1 h2 => hx ⟨n, h1, h2⟩)).2
    rw [this] at h; cases h
theorem nt_facts {x : Nm} (h : ntC x = 0) (hx : Small x) : rdF (ntT x) = x ∧ rdC (ntT x) = 0 ∧ (ntT x).size ≤ 9000 := by
  cases hv : nmB x
  · rw [ntC_no hv] at h; cases h
  · rw [ntT_ok hv]
    exact ⟨(rd_hit hv rfl).1, (rd_hit hv rfl).2, ntB_size x hv hx.1 hx.2.1⟩
theorem nt_code (x : Nm) : (nmB x != (ntC x == 0)) = false := by
  cases hv : nmB x
  · rw [ntC_no hv]; rfl
  · rw [ntC_ok hv]; rfl

set_option maxHeartbeats 16000000 in
set_option maxRecDepth 100000 in
theorem wNameTexts (A : Option Addr) (len cap : Nat) (w : World) (hl : len ≤ maxLen) (h : CodeIn w A len) (hld : Laid w) (hsh : w.ShapedOpen Tryz.prog) (her : Er5 w) :
    Calls Tryz.prog 3 #[.slice A len cap] w fun e w' => e = .returned (.bool true) ∧ Below w.heap.size w w' := by
  have CB := Lib.hid (cBig A len cap w hl)
  by_cases h1 : 4096 < len
  · rw [decide_eq_true h1] at CB
    clear h h1 hl
    go_enter Tryz.func3, Tryz.ntmps3
    go_wp2_with fail
    refine CB.out.mono ?_
    rintro e w' ⟨rfl, rfl⟩
    go_wp2_with fail
    go_ret
    exact ⟨rfl, Below.refl _ _⟩
  rw [decide_eq_false h1] at CB
  have hlen : len ≤ 4096 := by omega
  have C_0 := Lib.hid (Sp.codeZ h)
  have B_0 := Lib.hid (Sp.from_ w)
  have HSH : Hid (∀ W, Below w.heap.size w W → W.ShapedOpen Tryz.prog) := Lib.hid (fun W hW => shaped_below hsh hW)
  have HLD : Hid (∀ W, Below w.heap.size w W → Laid W) := Lib.hid (fun W hW => hld.below hW)
  have HER : Hid (∀ W, Below w.heap.size w W → Er5 W) := Lib.hid (fun W hW => her.below hW)
  clear h h1 hl hsh hld her
  go_enter Tryz.func3, Tryz.ntmps3
  go_wp2_with fail
  refine CB.out.mono ?_
  rintro e w0 ⟨rfl, rfl⟩
  clear CB
  have CX1 := Lib.hid (cDrawNT A len cap w (by omega) (C_0.out.here))
  go_wp2_with fail
  refine CX1.out.mono ?_
  rintro e w1 ⟨x, rfl, hx, g1⟩
  clear CX1
  have C_1 := Lib.hid (C_0.out.next g1)
  have B_1 := Lib.hid (B_0.out.next g1)
  clear g1 C_0 B_0
  have HX := Lib.hid hx
  have hx1 := hx.1
  have hx2 := hx.2.1
  clear hx
  have g1b := alloc_belowZ w1 (.cells #[.string x.t, .string x.l, .int .i64 x.s, .int .i64 x.f, .int .i64 x.u] 27)
  have C_1b := Lib.hid (C_1.out.next g1b)
  have B_1b := Lib.hid (B_1.out.next g1b)
  clear g1b C_1 B_1
  have X_1b := Lib.hid (Sp.tb (show TabAt _ _ 27 (celN x) from TabAt.new w1 _ _))
  obtain ⟨tt, htt⟩ : ∃ z9, z9 = ntT x := ⟨_, rfl⟩
  have Hhtt := Lib.hid htt
  clear htt
  obtain ⟨bad, hbad⟩ : ∃ z9, z9 = ntC x := ⟨_, rfl⟩
  have Hhbad := Lib.hid hbad
  clear hbad
  obtain ⟨X0, X1, X2, X3, X4⟩ := nm_cellsZ (X_1b.out.here)
  have CX2 := Lib.hid (cNText_impl x (w1.alloc (.cells #[.string x.t, .string x.l, .int .i64 x.s, .int .i64 x.f, .int .i64 x.u] 27)) (by omega) (by omega) (HSH.out _ (B_1b.out.here)) (HER.out _ (B_1b.out.here)).e (World.block_lt_of_cell? _ _ ((HLD.out _ (B_1b.out.here)).1.cell pow_named 0 (by rw [Lib.pow10Tab_length]; omega))) (HLD.out _ (B_1b.out.here)).1)
  go_wp2_with fail
  refine CX2.out.mono ?_
  rintro e w2 ⟨e2, g2⟩
  clear CX2
  rw [← Hhtt.out, ← Hhbad.out] at e2
  subst e2
  clear X0 X1 X2 X3 X4
  have C_2 := Lib.hid (C_1b.out.next g2)
  have B_2 := Lib.hid (B_1b.out.next g2)
  have X_2 := Lib.hid (X_1b.out.next g2)
  clear g2 C_1b B_1b X_1b
  obtain ⟨X0, X1, X2, X3, X4⟩ := nm_cellsZ (X_2.out.here)
  have CX3 := Lib.hid (cNText_spec x w2 (by omega) (by omega))
  go_wp2_with fail
  refine CX3.out.mono ?_
  rintro e w3 ⟨e3, g3⟩
  clear CX3
  rw [← Hhtt.out, ← Hhbad.out] at e3
  subst e3
  clear X0 X1 X2 X3 X4
  have C_3 := Lib.hid (C_2.out.next g3)
  have B_3 := Lib.hid (B_2.out.next g3)
  have X_3 := Lib.hid (X_2.out.next g3)
  clear g3 C_2 B_2 X_2
  have CX4 := Lib.hid (cDrawRN A len cap w3 (by omega) (C_3.out.here))
  go_wp2_with fail
  refine CX4.out.mono ?_
  rintro e w4 ⟨s, rfl, hs, g4⟩
  clear CX4
  clear C_3
  have B_4 := Lib.hid (B_3.out.next g4)
  have X_4 := Lib.hid (X_3.out.next g4)
  clear g4 B_3 X_3
  obtain ⟨y, hy⟩ : ∃ z9, z9 = rdF s := ⟨_, rfl⟩
  have Hhy := Lib.hid hy
  clear hy
  obtain ⟨one, hone⟩ : ∃ z9, z9 = rdC s := ⟨_, rfl⟩
  have Hhone := Lib.hid hone
  clear hone
  have CX5 := Lib.hid (cRd_impl s w4 (by omega) (HLD.out _ (B_4.out.here)) (HSH.out _ (B_4.out.here)) (HER.out _ (B_4.out.here)))
  go_wp2_with fail
  refine CX5.out.mono ?_
  rintro e w5 ⟨e5, g5⟩
  clear CX5
  rw [← Hhy.out, ← Hhone.out] at e5
  subst e5
  have B_5 := Lib.hid (B_4.out.next g5)
  have X_5 := Lib.hid (X_4.out.next g5)
  clear g5 B_4 X_4
  have g5b := alloc_belowZ w5 (.cells #[.string y.t, .string y.l, .int .i64 y.s, .int .i64 y.f, .int .i64 y.u] 27)
  have B_5b := Lib.hid (B_5.out.next g5b)
  have X_5b := Lib.hid (X_5.out.next g5b)
  clear g5b B_5 X_5
  have Y_5b := Lib.hid (Sp.tb (show TabAt _ _ 27 (celN y) from TabAt.new w5 _ _))
  have CX6 := Lib.hid (cRd_spec s (w5.alloc (.cells #[.string y.t, .string y.l, .int .i64 y.s, .int .i64 y.f, .int .i64 y.u] 27)) (by omega))
  go_wp2_with fail
  refine CX6.out.mono ?_
  rintro e w6 ⟨e6, g6⟩
  clear CX6
  rw [← Hhy.out, ← Hhone.out] at e6
  subst e6
  have B_6 := Lib.hid (B_5b.out.next g6)
  have X_6 := Lib.hid (X_5b.out.next g6)
  have Y_6 := Lib.hid (Y_5b.out.next g6)
  clear g6 B_5b X_5b Y_5b
  have g6b := alloc_belowZ w6 (.cells #[.string y.t, .string y.l, .int .i64 y.s, .int .i64 y.f, .int .i64 y.u] 27)
  have B_6b := Lib.hid (B_6.out.next g6b)
  have X_6b := Lib.hid (X_6.out.next g6b)
  have Y_6b := Lib.hid (Y_6.out.next g6b)
  clear g6b B_6 X_6 Y_6
  have R_6b := Lib.hid (Sp.tb (show TabAt _ _ 27 (celN y) from TabAt.new w6 _ _))
  have HF1 : Hid (one = 0 → ntT y = s ∧ ntC y = 0 ∧ y.t.size ≤ s.size ∧ y.l.size ≤ s.size) := Lib.hid (fun h0 => by rw [Hhy.out]; exact rd_facts (by rw [← Hhone.out]; exact h0))
  have HF2 : Hid (bad = 0 → rdF tt = x ∧ rdC tt = 0 ∧ tt.size ≤ 9000) := Lib.hid (fun h0 => by rw [Hhtt.out]; exact nt_facts (by rw [← Hhbad.out]; exact h0) HX.out)
  have hbx : (nmB x = true ∧ bad = 0) ∨ (nmB x = false ∧ bad = 1) := by
    rw [Hhbad.out]
    cases hv : nmB x
    · exact .inr ⟨rfl, ntC_no hv⟩
    · exact .inl ⟨rfl, ntC_ok hv⟩
  clear Hhtt Hhbad Hhy Hhone
  have htt : (tt.toList != tt.toList) = false := by simp
  have hoo : (one != one) = false := by simp
  have hne := run_neNmZ y
  have hgd := guard_nameZ
  rcases hbx with ⟨hv, rfl⟩ | ⟨hv, rfl⟩
  · skip
    obtain ⟨X0, X1, X2, X3, X4⟩ := nm_cellsZ (X_6b.out.here)
    obtain ⟨Y0, Y1, Y2, Y3, Y4⟩ := nm_cellsZ (Y_6b.out.here)
    obtain ⟨R0, R1, R2, R3, R4⟩ := nm_cellsZ (R_6b.out.here)
    have CX7 := Lib.hid (cIsName_impl x (w6.alloc (.cells #[.string y.t, .string y.l, .int .i64 y.s, .int .i64 y.f, .int .i64 y.u] 27)) (by omega) (by unfold maxLen; omega) (HSH.out _ (B_6b.out.here)) (HER.out _ (B_6b.out.here)).e)
    go_wp2_with fail
    refine CX7.out.mono ?_
    rintro e w7 ⟨e7, g7⟩
    clear CX7
    rw [hv] at e7
    subst e7
    clear X0 X1 X2 X3 X4
    clear Y0 Y1 Y2 Y3 Y4
    clear R0 R1 R2 R3 R4
    clear hv hne
    clear R_6b
    have B_7 := Lib.hid (B_6b.out.next g7)
    have X_7 := Lib.hid (X_6b.out.next g7)
    have Y_7 := Lib.hid (Y_6b.out.next g7)
    clear g7 B_6b X_6b Y_6b
    by_cases ho0 : one = 0
    · have hon : (one == 0) = true := by simp [ho0]
      obtain ⟨k1, k2, k3, k4⟩ := HF1.out ho0
      clear ho0
      obtain ⟨Y0, Y1, Y2, Y3, Y4⟩ := nm_cellsZ (Y_7.out.here)
      have CX8 := Lib.hid (cNText_impl y w7 (by omega) (by omega) (HSH.out _ (B_7.out.here)) (HER.out _ (B_7.out.here)).e (World.block_lt_of_cell? _ _ ((HLD.out _ (B_7.out.here)).1.cell pow_named 0 (by rw [Lib.pow10Tab_length]; omega))) (HLD.out _ (B_7.out.here)).1)
      go_wp2_with fail
      refine CX8.out.mono ?_
      rintro e w8 ⟨e8, g8⟩
      clear CX8
      rw [k1, k2] at e8
      subst e8
      clear k1 k2 k3 k4
      clear Y0 Y1 Y2 Y3 Y4
      clear Y_7
      have B_8 := Lib.hid (B_7.out.next g8)
      have X_8 := Lib.hid (X_7.out.next g8)
      clear g8 B_7 X_7
      have hss : (s.toList != s.toList) = false := by simp
      obtain ⟨f1, f2, f3⟩ := HF2.out (by first | rfl | trivial)
      clear HF1 HF2
      have CX20 := Lib.hid (cRd_impl tt w8 (by omega) (HLD.out _ (B_8.out.here)) (HSH.out _ (B_8.out.here)) (HER.out _ (B_8.out.here)))
      go_wp2_with fail
      refine CX20.out.mono ?_
      rintro e w20 ⟨e20, g20⟩
      clear CX20
      rw [f1, f2] at e20
      subst e20
      clear f1 f2
      have B_20 := Lib.hid (B_8.out.next g20)
      have X_20 := Lib.hid (X_8.out.next g20)
      clear g20 B_8 X_8
      have g20b := alloc_belowZ w20 (.cells #[.string x.t, .string x.l, .int .i64 x.s, .int .i64 x.f, .int .i64 x.u] 27)
      have B_20b := Lib.hid (B_20.out.next g20b)
      have X_20b := Lib.hid (X_20.out.next g20b)
      clear g20b B_20 X_20
      have K_20b := Lib.hid (Sp.tb (show TabAt _ _ 27 (celN x) from TabAt.new w20 _ _))
      obtain ⟨X0, X1, X2, X3, X4⟩ := nm_cellsZ (X_20b.out.here)
      obtain ⟨K0, K1, K2, K3, K4⟩ := nm_cellsZ (K_20b.out.here)
      have hne := run_neNmZ x
      have HB9 := Lib.hid (B_20b.out.here)
      go_wp2_with fail
      go_ret
      exact ⟨rfl, HB9.out⟩
    · have hon : (one == 0) = false := by simp [ho0]
      clear ho0
      obtain ⟨f1, f2, f3⟩ := HF2.out (by first | rfl | trivial)
      clear HF1 HF2
      have CX20 := Lib.hid (cRd_impl tt w7 (by omega) (HLD.out _ (B_7.out.here)) (HSH.out _ (B_7.out.here)) (HER.out _ (B_7.out.here)))
      go_wp2_with fail
      refine CX20.out.mono ?_
      rintro e w20 ⟨e20, g20⟩
      clear CX20
      rw [f1, f2] at e20
      subst e20
      clear f1 f2
      have B_20 := Lib.hid (B_7.out.next g20)
      have X_20 := Lib.hid (X_7.out.next g20)
      have Y_20 := Lib.hid (Y_7.out.next g20)
      clear g20 B_7 X_7 Y_7
      have g20b := alloc_belowZ w20 (.cells #[.string x.t, .string x.l, .int .i64 x.s, .int .i64 x.f, .int .i64 x.u] 27)
      have B_20b := Lib.hid (B_20.out.next g20b)
      have X_20b := Lib.hid (X_20.out.next g20b)
      have Y_20b := Lib.hid (Y_20.out.next g20b)
      clear g20b B_20 X_20 Y_20
      have K_20b := Lib.hid (Sp.tb (show TabAt _ _ 27 (celN x) from TabAt.new w20 _ _))
      obtain ⟨X0, X1, X2, X3, X4⟩ := nm_cellsZ (X_20b.out.here)
      obtain ⟨K0, K1, K2, K3, K4⟩ := nm_cellsZ (K_20b.out.here)
      have hne := run_neNmZ x
      have HB9 := Lib.hid (B_20b.out.here)
      go_wp2_with fail
      go_ret
      exact ⟨rfl, HB9.out⟩
  · skip
    obtain ⟨X0, X1, X2, X3, X4⟩ := nm_cellsZ (X_6b.out.here)
    obtain ⟨Y0, Y1, Y2, Y3, Y4⟩ := nm_cellsZ (Y_6b.out.here)
    obtain ⟨R0, R1, R2, R3, R4⟩ := nm_cellsZ (R_6b.out.here)
    have CX7 := Lib.hid (cIsName_impl x (w6.alloc (.cells #[.string y.t, .string y.l, .int .i64 y.s, .int .i64 y.f, .int .i64 y.u] 27)) (by omega) (by unfold maxLen; omega) (HSH.out _ (B_6b.out.here)) (HER.out _ (B_6b.out.here)).e)
    go_wp2_with fail
    refine CX7.out.mono ?_
    rintro e w7 ⟨e7, g7⟩
    clear CX7
    rw [hv] at e7
    subst e7
    clear X0 X1 X2 X3 X4
    clear Y0 Y1 Y2 Y3 Y4
    clear R0 R1 R2 R3 R4
    clear hv hne
    clear R_6b
    have B_7 := Lib.hid (B_6b.out.next g7)
    have X_7 := Lib.hid (X_6b.out.next g7)
    have Y_7 := Lib.hid (Y_6b.out.next g7)
    clear g7 B_6b X_6b Y_6b
    by_cases ho0 : one = 0
    · have hon : (one == 0) = true := by simp [ho0]
      obtain ⟨k1, k2, k3, k4⟩ := HF1.out ho0
      clear ho0
      obtain ⟨Y0, Y1, Y2, Y3, Y4⟩ := nm_cellsZ (Y_7.out.here)
      have CX8 := Lib.hid (cNText_impl y w7 (by omega) (by omega) (HSH.out _ (B_7.out.here)) (HER.out _ (B_7.out.here)).e (World.block_lt_of_cell? _ _ ((HLD.out _ (B_7.out.here)).1.cell pow_named 0 (by rw [Lib.pow10Tab_length]; omega))) (HLD.out _ (B_7.out.here)).1)
      go_wp2_with fail
      refine CX8.out.mono ?_
      rintro e w8 ⟨e8, g8⟩
      clear CX8
      rw [k1, k2] at e8
      subst e8
      clear k1 k2 k3 k4
      clear Y0 Y1 Y2 Y3 Y4
      clear Y_7
      have B_8 := Lib.hid (B_7.out.next g8)
      have X_8 := Lib.hid (X_7.out.next g8)
      clear g8 B_7 X_7
      have hss : (s.toList != s.toList) = false := by simp
      have HB9 := Lib.hid (B_8.out.here)
      go_wp2_with fail
      go_ret
      exact ⟨rfl, HB9.out⟩
    · have hon : (one == 0) = false := by simp [ho0]
      clear ho0
      have HB9 := Lib.hid (B_7.out.here)
      go_wp2_with fail
      go_ret
      exact ⟨rfl, HB9.out⟩
end Go.Proofs.YthlilfdndpnbkaaGreatDoor
