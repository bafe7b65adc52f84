/-
  The law of parts: what is taken apart goes together again, and translating generics back gives the phrase.
-/
import Derived.Test.YtippjomkbpiliaaDoorPartsM
import Derived.Test.YtippjomkbpiliaaDoorDraw8T
import Derived.Test.YtippjomkbpiliaaDoorSpS
import Derived.Test.YtippjomkbpiliaaDoorBig
import Derived.Test.YtippjomkbpiliaaDoorCodeArg
namespace Go.Proofs.YtippjomkbpiliaaDoor
set_option linter.unusedVariables false
open Go.RowKit

theorem Sp.code8 {w : World} {A : Option Addr} {len : Nat} (h : CodeIn w A len) : Sp 0 w.heap.size (fun W => CodeIn W A len) w := ⟨Nat.le_refl _, fun W hW => h.below hW.below⟩
theorem Sp.pb {w : World} {b : Nat} {s t : ByteArray} (h : PB w b s t) : Sp 0 w.heap.size (fun W => PB W b s t) w := ⟨Nat.le_refl _, fun W hW => h.below hW.below⟩
theorem alloc_below8 (w : World) (o : Obj) : Below w.heap.size w (w.alloc o) := (Below.refl _ _).alloc (Nat.le_refl _) _

set_option maxHeartbeats 16000000 in
set_option maxRecDepth 100000 in
theorem wParts (A : Option Addr) (len cap : Nat) (w : World) (hl : len ≤ maxLen) (h : CodeIn w A len) (hsh : w.ShapedOpen Tryd.prog) :
    Calls Tryd.prog 3 #[.slice A len cap] w fun e w' => e = .returned (.bool true) ∧ Below w.heap.size w w' := by
  have CB := Lib.hid (cBig A len cap w hl)
  by_cases h1 : 4096 < len
  · rw [decide_eq_true h1] at CB
    clear h h1 hl hsh
    go_enter Tryd.func3, Tryd.ntmps3
    go_wp2_with fail
    refine CB.out.mono ?_
    rintro e w' ⟨rfl, rfl⟩
    go_wp2_with fail
    go_ret
    exact ⟨rfl, Below.refl _ _⟩
  rw [decide_eq_false h1] at CB
  have hlen : len ≤ 4096 := by omega
  have C_0 := Lib.hid (Sp.code8 h)
  have B_0 := Lib.hid (Sp.from_ w)
  have HSH : Hid (∀ W, Below w.heap.size w W → W.ShapedOpen Tryd.prog) := Lib.hid (fun W hW => shaped_below hsh hW)
  clear h h1 hl hsh
  go_enter Tryd.func3, Tryd.ntmps3
  go_wp2_with fail
  refine CB.out.mono ?_
  rintro e w0 ⟨rfl, rfl⟩
  clear CB
  -- the draws and the calls
  have CX1 := Lib.hid (cDrawTake A len cap w (by omega) C_0.out.here)
  go_wp2_with fail
  refine CX1.out.mono ?_
  rintro e w1 ⟨A1, n1, c1, gs, s, hn1, hnc1, hz, hs, rfl, hT, g1⟩
  clear CX1
  have C_1 := Lib.hid (C_0.out.next g1)
  have B_1 := Lib.hid (B_0.out.next g1)
  clear g1 C_0 B_0
  have T_1 := Lib.hid (Sp.text hT.textAt)
  clear hT
  have HZ1 := Lib.hid hz
  clear hz
  obtain ⟨PS, hPS⟩ : ∃ z, z = taS gs s := ⟨_, rfl⟩
  have HhPS := Lib.hid hPS
  clear hPS
  obtain ⟨PG, hPG⟩ : ∃ z, z = taG gs s := ⟨_, rfl⟩
  have HhPG := Lib.hid hPG
  clear hPG
  obtain ⟨bad, hbad⟩ : ∃ z, z = taC gs s := ⟨_, rfl⟩
  have Hhbad := Lib.hid hbad
  clear hbad
  have CX2 := Lib.hid (tTake_impl A1 n1 c1 gs s w1 (by omega) hnc1 (fun x hx => by have := HZ1.out x hx; unfold maxLen; omega) (by omega) T_1.out.here (HSH.out _ B_1.out.here))
  go_wp2_with fail
  refine CX2.out.mono ?_
  rintro e w2 ⟨e2, g2⟩
  clear CX2
  rw [← HhPS.out, ← HhPG.out, ← Hhbad.out] at e2
  subst e2
  have C_2 := Lib.hid (C_1.out.next g2)
  have B_2 := Lib.hid (B_1.out.next g2)
  have T_2 := Lib.hid (T_1.out.next g2)
  clear g2 C_1 B_1 T_1
  have g2b := alloc_below8 w2 (.cells #[.string PS, .string PG] 28)
  have C_2b := Lib.hid (C_2.out.next g2b)
  have B_2b := Lib.hid (B_2.out.next g2b)
  have T_2b := Lib.hid (T_2.out.next g2b)
  clear g2b C_2 B_2 T_2
  have X_2b := Lib.hid (Sp.pb (PB.new w2 PS PG))
  have CX3 := Lib.hid (tTake_spec A1 n1 c1 gs s (w2.alloc (.cells #[.string PS, .string PG] 28)) (by omega) (fun x hx => by have := HZ1.out x hx; unfold maxLen; omega) (by omega) T_2b.out.here)
  go_wp2_with fail
  refine CX3.out.mono ?_
  rintro e w3 ⟨e3, g3⟩
  clear CX3
  rw [← HhPS.out, ← HhPG.out, ← Hhbad.out] at e3
  subst e3
  have C_3 := Lib.hid (C_2b.out.next g3)
  have B_3 := Lib.hid (B_2b.out.next g3)
  have T_3 := Lib.hid (T_2b.out.next g3)
  have X_3 := Lib.hid (X_2b.out.next g3)
  clear g3 C_2b B_2b T_2b X_2b
  have g3b := alloc_below8 w3 (.cells #[.string PS, .string PG] 28)
  have C_3b := Lib.hid (C_3.out.next g3b)
  have B_3b := Lib.hid (B_3.out.next g3b)
  have T_3b := Lib.hid (T_3.out.next g3b)
  have X_3b := Lib.hid (X_3.out.next g3b)
  clear g3b C_3 B_3 T_3 X_3
  have Y_3b := Lib.hid (Sp.pb (PB.new w3 PS PG))
  have HF2 : Hid (bad = 0 → PS.size ≤ 4000 ∧ PG.size ≤ 16 ∧ ptC PS PG true = 0 ∧ ptC PS PG false = 0 ∧ (ptS PS PG true = s ∨ ptS PS PG false = s) ∧ (PG = ByteArray.empty ∨ PG ∈ gs)) := Lib.hid (fun h0 => by rw [HhPS.out, HhPG.out]; exact take_facts (by rw [← Hhbad.out]; exact h0) hs)
  clear HhPS HhPG Hhbad
  have CX4 := Lib.hid (cDrawPut A len cap (w3.alloc (.cells #[.string PS, .string PG] 28)) (by omega) C_3b.out.here)
  go_wp2_with fail
  refine CX4.out.mono ?_
  rintro e w4 ⟨xs, xt, fb, hxs, hxt, rfl, g4⟩
  clear CX4
  have C_4 := Lib.hid (C_3b.out.next g4)
  have B_4 := Lib.hid (B_3b.out.next g4)
  have T_4 := Lib.hid (T_3b.out.next g4)
  have X_4 := Lib.hid (X_3b.out.next g4)
  have Y_4 := Lib.hid (Y_3b.out.next g4)
  clear g4 C_3b B_3b T_3b X_3b Y_3b
  have g4b := alloc_below8 w4 (.cells #[.string xs, .string xt] 28)
  have C_4b := Lib.hid (C_4.out.next g4b)
  have B_4b := Lib.hid (B_4.out.next g4b)
  have T_4b := Lib.hid (T_4.out.next g4b)
  have X_4b := Lib.hid (X_4.out.next g4b)
  have Y_4b := Lib.hid (Y_4.out.next g4b)
  clear g4b C_4 B_4 T_4 X_4 Y_4
  have Z_4b := Lib.hid (Sp.pb (PB.new w4 xs xt))
  obtain ⟨ts, hts⟩ : ∃ z, z = ptS xs xt fb := ⟨_, rfl⟩
  have Hhts := Lib.hid hts
  clear hts
  obtain ⟨tc, htc⟩ : ∃ z, z = ptC xs xt fb := ⟨_, rfl⟩
  have Hhtc := Lib.hid htc
  clear htc
  obtain ⟨⟨Zl, Z0, Z1⟩, Zf, Zg⟩ := Z_4b.out.here
  have CX5 := Lib.hid (cPut_impl xs xt fb (w4.alloc (.cells #[.string xs, .string xt] 28)) (by omega) (by omega) (HSH.out _ B_4b.out.here))
  go_wp2_with fail
  refine CX5.out.mono ?_
  rintro e w5 ⟨e5, g5⟩
  clear CX5
  rw [← Hhts.out, ← Hhtc.out] at e5
  subst e5
  clear Zl Z0 Z1 Zf Zg
  have C_5 := Lib.hid (C_4b.out.next g5)
  have B_5 := Lib.hid (B_4b.out.next g5)
  have T_5 := Lib.hid (T_4b.out.next g5)
  have X_5 := Lib.hid (X_4b.out.next g5)
  have Y_5 := Lib.hid (Y_4b.out.next g5)
  have Z_5 := Lib.hid (Z_4b.out.next g5)
  clear g5 C_4b B_4b T_4b X_4b Y_4b Z_4b
  obtain ⟨⟨Zl, Z0, Z1⟩, Zf, Zg⟩ := Z_5.out.here
  have CX6 := Lib.hid (cPut_spec xs xt fb w5 (by omega) (by omega))
  go_wp2_with fail
  refine CX6.out.mono ?_
  rintro e w6 ⟨e6, g6⟩
  clear CX6
  rw [← Hhts.out, ← Hhtc.out] at e6
  subst e6
  clear Zl Z0 Z1 Zf Zg
  clear Hhts Hhtc
  clear Z_5
  have C_6 := Lib.hid (C_5.out.next g6)
  have B_6 := Lib.hid (B_5.out.next g6)
  have T_6 := Lib.hid (T_5.out.next g6)
  have X_6 := Lib.hid (X_5.out.next g6)
  have Y_6 := Lib.hid (Y_5.out.next g6)
  clear g6 C_5 B_5 T_5 X_5 Y_5
  have CX7 := Lib.hid (cDrawTr A len cap w6 (by omega) C_6.out.here)
  go_wp2_with fail
  refine CX7.out.mono ?_
  rintro e w7 ⟨A2, n2, c2, fs, A3, n3, c3, us, ph, hn2, hnc2, hn3, hnc3, hz2, hz3, hph, rfl, hF, hU, g7⟩
  clear CX7
  clear C_6
  have B_7 := Lib.hid (B_6.out.next g7)
  have T_7 := Lib.hid (T_6.out.next g7)
  have X_7 := Lib.hid (X_6.out.next g7)
  have Y_7 := Lib.hid (Y_6.out.next g7)
  clear g7 B_6 T_6 X_6 Y_6
  have F_7 := Lib.hid (Sp.text hF)
  have U_7 := Lib.hid (Sp.text hU)
  clear hF hU
  have HZ2 := Lib.hid hz2
  have HZ3 := Lib.hid hz3
  clear hz2 hz3
  obtain ⟨tg, htg⟩ : ∃ z, z = trS fs us ph := ⟨_, rfl⟩
  have Hhtg := Lib.hid htg
  clear htg
  obtain ⟨three, hthree⟩ : ∃ z, z = trC fs us ph := ⟨_, rfl⟩
  have Hhthree := Lib.hid hthree
  clear hthree
  have CX8 := Lib.hid (tTr_impl A2 A3 n2 n3 c2 c3 fs us ph w7 (by omega) (by omega) hnc2 hnc3 (fun x hx => by have := HZ2.out x hx; unfold maxLen; omega) (fun x hx => by have := HZ3.out x hx; unfold maxLen; omega) (by omega) F_7.out.here U_7.out.here (HSH.out _ B_7.out.here))
  go_wp2_with fail
  refine CX8.out.mono ?_
  rintro e w8 ⟨e8, g8⟩
  clear CX8
  rw [← Hhtg.out, ← Hhthree.out] at e8
  subst e8
  have B_8 := Lib.hid (B_7.out.next g8)
  have T_8 := Lib.hid (T_7.out.next g8)
  have X_8 := Lib.hid (X_7.out.next g8)
  have Y_8 := Lib.hid (Y_7.out.next g8)
  have F_8 := Lib.hid (F_7.out.next g8)
  have U_8 := Lib.hid (U_7.out.next g8)
  clear g8 B_7 T_7 X_7 Y_7 F_7 U_7
  have CX9 := Lib.hid (tTr_spec A2 A3 n2 n3 c2 c3 fs us ph w8 (by omega) (by omega) (fun x hx => by have := HZ2.out x hx; unfold maxLen; omega) (fun x hx => by have := HZ3.out x hx; unfold maxLen; omega) (by omega) F_8.out.here U_8.out.here)
  go_wp2_with fail
  refine CX9.out.mono ?_
  rintro e w9 ⟨e9, g9⟩
  clear CX9
  rw [← Hhtg.out, ← Hhthree.out] at e9
  subst e9
  clear U_8
  have B_9 := Lib.hid (B_8.out.next g9)
  have T_9 := Lib.hid (T_8.out.next g9)
  have X_9 := Lib.hid (X_8.out.next g9)
  have Y_9 := Lib.hid (Y_8.out.next g9)
  have F_9 := Lib.hid (F_8.out.next g9)
  clear g9 B_8 T_8 X_8 Y_8 F_8
  have HF1 : Hid (three = 0 → taC fs ph = 0 ∧ trS fs fs ph = ph ∧ trC fs fs ph = 0 ∧ (taG fs ph = ByteArray.empty → tg = ph)) := Lib.hid (fun h0 => by rw [Hhtg.out]; exact tr_facts (by rw [← Hhthree.out]; exact h0))
  clear Hhtg Hhthree
  obtain ⟨gb, hgb⟩ : ∃ z, z = genB gs := ⟨_, rfl⟩
  have Hhgb := Lib.hid hgb
  clear hgb
  have CGI := Lib.hid (tGen_impl A1 n1 c1 w9.heap.size gs w9 (by omega) hnc1 (fun x hx => by have := HZ1.out x hx; unfold maxLen; omega) T_9.out.here)
  have CGS := Lib.hid (tGen_spec A1 n1 c1 w9.heap.size gs w9 (by omega) (fun x hx => by have := HZ1.out x hx; unfold maxLen; omega) T_9.out.here)
  rw [← Hhgb.out] at CGI CGS
  clear Hhgb
  have hbb : (bad != bad) = false := by simp
  have htt : (tc != tc) = false := by simp
  have h33 : (three != three) = false := by simp
  have hgg : (gb != gb) = false := by simp
  have hs1 : (ts.toList != ts.toList) = false := by simp
  have hs2 : (tg.toList != tg.toList) = false := by simp
  obtain ⟨⟨Xl, X0, X1⟩, Xf, Xg⟩ := X_9.out.here
  obtain ⟨⟨Yl, Y0, Y1⟩, Yf, Yg⟩ := Y_9.out.here
  by_cases h30 : three = 0
  · have h3n : (three == 0) = true := by simp [h30]
    obtain ⟨k1, k2, k3, k4⟩ := HF1.out h30
    have HK4 := Lib.hid k4
    clear k4 h30 HF1
    have CX10 := Lib.hid (tTake_impl A2 n2 c2 fs ph w9 (by omega) hnc2 (fun x hx => by have := HZ2.out x hx; unfold maxLen; omega) (by omega) F_9.out.here (HSH.out _ B_9.out.here))
    go_wp2_with (first
      | (go_at_call 17; refine CGI.out.mono ?_; rintro e w' ⟨rfl, rfl⟩)
      | (go_at_call 18; refine CGS.out.mono ?_; rintro e w' ⟨rfl, rfl⟩))
    refine CX10.out.mono ?_
    rintro e w10 ⟨e10, g10⟩
    clear CX10
    rw [k1] at e10
    obtain ⟨aS, haS⟩ : ∃ z, z = taS fs ph := ⟨_, rfl⟩
    have HhaS := Lib.hid haS
    clear haS
    obtain ⟨aG, haG⟩ : ∃ z, z = taG fs ph := ⟨_, rfl⟩
    have HhaG := Lib.hid haG
    clear haG
    rw [← HhaS.out, ← HhaG.out] at e10
    rw [← HhaG.out] at HK4
    clear HhaS HhaG k1
    subst e10
    clear Xl X0 X1 Xf Xg
    clear Yl Y0 Y1 Yf Yg
    clear Y_9
    have B_10 := Lib.hid (B_9.out.next g10)
    have T_10 := Lib.hid (T_9.out.next g10)
    have X_10 := Lib.hid (X_9.out.next g10)
    have F_10 := Lib.hid (F_9.out.next g10)
    clear g10 B_9 T_9 X_9 F_9
    have g10b := alloc_below8 w10 (.cells #[.string aS, .string aG] 28)
    have B_10b := Lib.hid (B_10.out.next g10b)
    have T_10b := Lib.hid (T_10.out.next g10b)
    have X_10b := Lib.hid (X_10.out.next g10b)
    have F_10b := Lib.hid (F_10.out.next g10b)
    clear g10b B_10 T_10 X_10 F_10
    have W_10b := Lib.hid (Sp.pb (PB.new w10 aS aG))
    have CX11 := Lib.hid (tTr_impl A2 A2 n2 n2 c2 c2 fs fs ph (w10.alloc (.cells #[.string aS, .string aG] 28)) (by omega) (by omega) hnc2 hnc2 (fun x hx => by have := HZ2.out x hx; unfold maxLen; omega) (fun x hx => by have := HZ2.out x hx; unfold maxLen; omega) (by omega) F_10b.out.here F_10b.out.here (HSH.out _ B_10b.out.here))
    go_wp2_with fail
    refine CX11.out.mono ?_
    rintro e w11 ⟨e11, g11⟩
    clear CX11
    rw [k2, k3] at e11
    subst e11
    clear k2 k3
    clear F_10b
    have B_11 := Lib.hid (B_10b.out.next g11)
    have T_11 := Lib.hid (T_10b.out.next g11)
    have X_11 := Lib.hid (X_10b.out.next g11)
    have W_11 := Lib.hid (W_10b.out.next g11)
    clear g11 B_10b T_10b X_10b W_10b
    obtain ⟨⟨Wl, W0, W1⟩, Wf, Wg⟩ := W_11.out.here
    have hpp : (ph.toList != ph.toList) = false := by simp
    by_cases hae : aG = ByteArray.empty
    · have he0 : (aG.toList == ([] : List UInt8)) = true := by rw [empty_list, decide_eq_true hae]
      have hgp := HK4.out hae
      subst hgp
      clear hae HK4
      by_cases hb0 : bad = 0
      · have hbn : (bad != 0) = false := by simp [hb0]
        obtain ⟨f1, f2, f3, f4, f5, f6⟩ := HF2.out hb0
        have HF5 := Lib.hid f5
        have HF6 := Lib.hid f6
        clear f5 f6 hb0 HF2
        obtain ⟨⟨Xl, X0, X1⟩, Xf, Xg⟩ := X_11.out.here
        have CX20 := Lib.hid (cPut_impl PS PG true w11 (by omega) (by omega) (HSH.out _ B_11.out.here))
        go_wp2_with fail
        refine CX20.out.mono ?_
        rintro e w20 ⟨e20, g20⟩
        clear CX20
        rw [f3] at e20
        subst e20
        clear Xl X0 X1 Xf Xg
        have B_20 := Lib.hid (B_11.out.next g20)
        have T_20 := Lib.hid (T_11.out.next g20)
        have X_20 := Lib.hid (X_11.out.next g20)
        have W_20 := Lib.hid (W_11.out.next g20)
        clear g20 B_11 T_11 X_11 W_11
        obtain ⟨⟨Xl, X0, X1⟩, Xf, Xg⟩ := X_20.out.here
        have CX21 := Lib.hid (cPut_impl PS PG false w20 (by omega) (by omega) (HSH.out _ B_20.out.here))
        go_wp2_with fail
        refine CX21.out.mono ?_
        rintro e w21 ⟨e21, g21⟩
        clear CX21
        rw [f4] at e21
        subst e21
        clear Xl X0 X1 Xf Xg
        have B_21 := Lib.hid (B_20.out.next g21)
        have T_21 := Lib.hid (T_20.out.next g21)
        have X_21 := Lib.hid (X_20.out.next g21)
        have W_21 := Lib.hid (W_20.out.next g21)
        clear g21 B_20 T_20 X_20 W_20
        obtain ⟨⟨Xl, X0, X1⟩, Xf, Xg⟩ := X_21.out.here
        have HB9 := Lib.hid B_21.out.here
        have HT9 := Lib.hid T_21.out.here
        generalize ptS PS PG true = q1 at HF5 ⊢
        generalize ptS PS PG false = q2 at HF5 ⊢
        by_cases hq1 : q1 = s
        · have hz1 : (q1.toList == s.toList) = true := eqT_yes _ _ hq1
          clear hq1
          by_cases hpe : PG = ByteArray.empty
          · have he : (PG.toList == ([] : List UInt8)) = true := by rw [empty_list, decide_eq_true hpe]
            clear hpe
            go_wp2_with fail
            go_ret
            exact ⟨rfl, HB9.out⟩
          · have he : (PG.toList == ([] : List UInt8)) = false := by rw [empty_list, decide_eq_false hpe]
            have hmem : PG ∈ gs := by rcases HF6.out with h9 | h9; exact absurd h9 hpe; exact h9
            have CHT := Lib.hid (tHasT PG A1 n1 c1 w21.heap.size gs w21 (by omega) hmem HT9.out)
            clear hpe hmem
            go_wp2_with (go_at_call 19; refine CHT.out.mono ?_; rintro e w' ⟨rfl, rfl⟩)
            go_ret
            exact ⟨rfl, HB9.out⟩
        · have hz1 : (q1.toList == s.toList) = false := eqT_no _ _ hq1
          have hz2 : (q2.toList == s.toList) = true := by rcases HF5.out with h9 | h9; exact absurd h9 hq1; exact eqT_yes _ _ h9
          clear hq1
          by_cases hpe : PG = ByteArray.empty
          · have he : (PG.toList == ([] : List UInt8)) = true := by rw [empty_list, decide_eq_true hpe]
            clear hpe
            go_wp2_with fail
            go_ret
            exact ⟨rfl, HB9.out⟩
          · have he : (PG.toList == ([] : List UInt8)) = false := by rw [empty_list, decide_eq_false hpe]
            have hmem : PG ∈ gs := by rcases HF6.out with h9 | h9; exact absurd h9 hpe; exact h9
            have CHT := Lib.hid (tHasT PG A1 n1 c1 w21.heap.size gs w21 (by omega) hmem HT9.out)
            clear hpe hmem
            go_wp2_with (go_at_call 19; refine CHT.out.mono ?_; rintro e w' ⟨rfl, rfl⟩)
            go_ret
            exact ⟨rfl, HB9.out⟩
      · have hbn : (bad != 0) = true := by simp [hb0]
        have HB9 := Lib.hid B_11.out.here
        clear hb0
        go_wp2_with fail
        go_ret
        exact ⟨rfl, HB9.out⟩
    · have he0 : (aG.toList == ([] : List UInt8)) = false := by rw [empty_list, decide_eq_false hae]
      clear hae HK4
      by_cases hb0 : bad = 0
      · have hbn : (bad != 0) = false := by simp [hb0]
        obtain ⟨f1, f2, f3, f4, f5, f6⟩ := HF2.out hb0
        have HF5 := Lib.hid f5
        have HF6 := Lib.hid f6
        clear f5 f6 hb0 HF2
        obtain ⟨⟨Xl, X0, X1⟩, Xf, Xg⟩ := X_11.out.here
        have CX20 := Lib.hid (cPut_impl PS PG true w11 (by omega) (by omega) (HSH.out _ B_11.out.here))
        go_wp2_with fail
        refine CX20.out.mono ?_
        rintro e w20 ⟨e20, g20⟩
        clear CX20
        rw [f3] at e20
        subst e20
        clear Xl X0 X1 Xf Xg
        have B_20 := Lib.hid (B_11.out.next g20)
        have T_20 := Lib.hid (T_11.out.next g20)
        have X_20 := Lib.hid (X_11.out.next g20)
        have W_20 := Lib.hid (W_11.out.next g20)
        clear g20 B_11 T_11 X_11 W_11
        obtain ⟨⟨Xl, X0, X1⟩, Xf, Xg⟩ := X_20.out.here
        have CX21 := Lib.hid (cPut_impl PS PG false w20 (by omega) (by omega) (HSH.out _ B_20.out.here))
        go_wp2_with fail
        refine CX21.out.mono ?_
        rintro e w21 ⟨e21, g21⟩
        clear CX21
        rw [f4] at e21
        subst e21
        clear Xl X0 X1 Xf Xg
        have B_21 := Lib.hid (B_20.out.next g21)
        have T_21 := Lib.hid (T_20.out.next g21)
        have X_21 := Lib.hid (X_20.out.next g21)
        have W_21 := Lib.hid (W_20.out.next g21)
        clear g21 B_20 T_20 X_20 W_20
        obtain ⟨⟨Xl, X0, X1⟩, Xf, Xg⟩ := X_21.out.here
        have HB9 := Lib.hid B_21.out.here
        have HT9 := Lib.hid T_21.out.here
        generalize ptS PS PG true = q1 at HF5 ⊢
        generalize ptS PS PG false = q2 at HF5 ⊢
        by_cases hq1 : q1 = s
        · have hz1 : (q1.toList == s.toList) = true := eqT_yes _ _ hq1
          clear hq1
          by_cases hpe : PG = ByteArray.empty
          · have he : (PG.toList == ([] : List UInt8)) = true := by rw [empty_list, decide_eq_true hpe]
            clear hpe
            go_wp2_with fail
            go_ret
            exact ⟨rfl, HB9.out⟩
          · have he : (PG.toList == ([] : List UInt8)) = false := by rw [empty_list, decide_eq_false hpe]
            have hmem : PG ∈ gs := by rcases HF6.out with h9 | h9; exact absurd h9 hpe; exact h9
            have CHT := Lib.hid (tHasT PG A1 n1 c1 w21.heap.size gs w21 (by omega) hmem HT9.out)
            clear hpe hmem
            go_wp2_with (go_at_call 19; refine CHT.out.mono ?_; rintro e w' ⟨rfl, rfl⟩)
            go_ret
            exact ⟨rfl, HB9.out⟩
        · have hz1 : (q1.toList == s.toList) = false := eqT_no _ _ hq1
          have hz2 : (q2.toList == s.toList) = true := by rcases HF5.out with h9 | h9; exact absurd h9 hq1; exact eqT_yes _ _ h9
          clear hq1
          by_cases hpe : PG = ByteArray.empty
          · have he : (PG.toList == ([] : List UInt8)) = true := by rw [empty_list, decide_eq_true hpe]
            clear hpe
            go_wp2_with fail
            go_ret
            exact ⟨rfl, HB9.out⟩
          · have he : (PG.toList == ([] : List UInt8)) = false := by rw [empty_list, decide_eq_false hpe]
            have hmem : PG ∈ gs := by rcases HF6.out with h9 | h9; exact absurd h9 hpe; exact h9
            have CHT := Lib.hid (tHasT PG A1 n1 c1 w21.heap.size gs w21 (by omega) hmem HT9.out)
            clear hpe hmem
            go_wp2_with (go_at_call 19; refine CHT.out.mono ?_; rintro e w' ⟨rfl, rfl⟩)
            go_ret
            exact ⟨rfl, HB9.out⟩
      · have hbn : (bad != 0) = true := by simp [hb0]
        have HB9 := Lib.hid B_11.out.here
        clear hb0
        go_wp2_with fail
        go_ret
        exact ⟨rfl, HB9.out⟩
  · have h3n : (three == 0) = false := by simp [h30]
    clear HF1 h30
    by_cases hb0 : bad = 0
    · have hbn : (bad != 0) = false := by simp [hb0]
      obtain ⟨f1, f2, f3, f4, f5, f6⟩ := HF2.out hb0
      have HF5 := Lib.hid f5
      have HF6 := Lib.hid f6
      clear f5 f6 hb0 HF2
      have CX20 := Lib.hid (cPut_impl PS PG true w9 (by omega) (by omega) (HSH.out _ B_9.out.here))
      go_wp2_with (first
        | (go_at_call 17; refine CGI.out.mono ?_; rintro e w' ⟨rfl, rfl⟩)
        | (go_at_call 18; refine CGS.out.mono ?_; rintro e w' ⟨rfl, rfl⟩))
      refine CX20.out.mono ?_
      rintro e w20 ⟨e20, g20⟩
      clear CX20
      rw [f3] at e20
      subst e20
      clear Xl X0 X1 Xf Xg
      clear Yl Y0 Y1 Yf Yg
      have B_20 := Lib.hid (B_9.out.next g20)
      have T_20 := Lib.hid (T_9.out.next g20)
      have X_20 := Lib.hid (X_9.out.next g20)
      have Y_20 := Lib.hid (Y_9.out.next g20)
      have F_20 := Lib.hid (F_9.out.next g20)
      clear g20 B_9 T_9 X_9 Y_9 F_9
      obtain ⟨⟨Xl, X0, X1⟩, Xf, Xg⟩ := X_20.out.here
      have CX21 := Lib.hid (cPut_impl PS PG false w20 (by omega) (by omega) (HSH.out _ B_20.out.here))
      go_wp2_with fail
      refine CX21.out.mono ?_
      rintro e w21 ⟨e21, g21⟩
      clear CX21
      rw [f4] at e21
      subst e21
      clear Xl X0 X1 Xf Xg
      have B_21 := Lib.hid (B_20.out.next g21)
      have T_21 := Lib.hid (T_20.out.next g21)
      have X_21 := Lib.hid (X_20.out.next g21)
      have Y_21 := Lib.hid (Y_20.out.next g21)
      have F_21 := Lib.hid (F_20.out.next g21)
      clear g21 B_20 T_20 X_20 Y_20 F_20
      obtain ⟨⟨Xl, X0, X1⟩, Xf, Xg⟩ := X_21.out.here
      have HB9 := Lib.hid B_21.out.here
      have HT9 := Lib.hid T_21.out.here
      generalize ptS PS PG true = q1 at HF5 ⊢
      generalize ptS PS PG false = q2 at HF5 ⊢
      by_cases hq1 : q1 = s
      · have hz1 : (q1.toList == s.toList) = true := eqT_yes _ _ hq1
        clear hq1
        by_cases hpe : PG = ByteArray.empty
        · have he : (PG.toList == ([] : List UInt8)) = true := by rw [empty_list, decide_eq_true hpe]
          clear hpe
          go_wp2_with fail
          go_ret
          exact ⟨rfl, HB9.out⟩
        · have he : (PG.toList == ([] : List UInt8)) = false := by rw [empty_list, decide_eq_false hpe]
          have hmem : PG ∈ gs := by rcases HF6.out with h9 | h9; exact absurd h9 hpe; exact h9
          have CHT := Lib.hid (tHasT PG A1 n1 c1 w21.heap.size gs w21 (by omega) hmem HT9.out)
          clear hpe hmem
          go_wp2_with (go_at_call 19; refine CHT.out.mono ?_; rintro e w' ⟨rfl, rfl⟩)
          go_ret
          exact ⟨rfl, HB9.out⟩
      · have hz1 : (q1.toList == s.toList) = false := eqT_no _ _ hq1
        have hz2 : (q2.toList == s.toList) = true := by rcases HF5.out with h9 | h9; exact absurd h9 hq1; exact eqT_yes _ _ h9
        clear hq1
        by_cases hpe : PG = ByteArray.empty
        · have he : (PG.toList == ([] : List UInt8)) = true := by rw [empty_list, decide_eq_true hpe]
          clear hpe
          go_wp2_with fail
          go_ret
          exact ⟨rfl, HB9.out⟩
        · have he : (PG.toList == ([] : List UInt8)) = false := by rw [empty_list, decide_eq_false hpe]
          have hmem : PG ∈ gs := by rcases HF6.out with h9 | h9; exact absurd h9 hpe; exact h9
          have CHT := Lib.hid (tHasT PG A1 n1 c1 w21.heap.size gs w21 (by omega) hmem HT9.out)
          clear hpe hmem
          go_wp2_with (go_at_call 19; refine CHT.out.mono ?_; rintro e w' ⟨rfl, rfl⟩)
          go_ret
          exact ⟨rfl, HB9.out⟩
    · have hbn : (bad != 0) = true := by simp [hb0]
      have HB9 := Lib.hid B_9.out.here
      clear hb0
      go_wp2_with (first
        | (go_at_call 17; refine CGI.out.mono ?_; rintro e w' ⟨rfl, rfl⟩)
        | (go_at_call 18; refine CGS.out.mono ?_; rintro e w' ⟨rfl, rfl⟩))
      go_ret
      exact ⟨rfl, HB9.out⟩
end Go.Proofs.YtippjomkbpiliaaDoor
