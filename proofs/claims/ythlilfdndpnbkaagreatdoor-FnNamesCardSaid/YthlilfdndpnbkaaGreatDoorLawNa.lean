/-
  The law of names: renamings change what they should and nothing else; each answer is the reference's.
-/
import Derived.Test.YthlilfdndpnbkaaGreatDoorNaD
import Derived.Test.YthlilfdndpnbkaaGreatDoorNaM
import Derived.Test.YthlilfdndpnbkaaGreatDoorMu23
import Derived.Test.YthlilfdndpnbkaaGreatDoorMu19
import Derived.Test.YthlilfdndpnbkaaGreatDoorCodeArg
import Derived.Test.YthlilfdndpnbkaaGreatDoorMu17
namespace Go.Proofs.YthlilfdndpnbkaaGreatDoor
set_option linter.unusedVariables false
open Go.RowKit

theorem below_drN9 {B : Nat} {a w : World} (h : Below B a w) (n : Nat) : Below B a (w.drewN n) := ⟨h.os, h.tape, h.output, h.size, h.block⟩
theorem Sp.codeN {w : World} {A : Option Addr} {len : Nat} (h : CodeIn w A len) : Sp 0 w.heap.size (fun W => CodeIn W A len) w := ⟨Nat.le_refl _, fun W hW => h.belowZ hW.below⟩
set_option maxHeartbeats 16000000 in
set_option maxRecDepth 100000 in
theorem wNames (A : Option Addr) (len cap : Nat) (w : World) (hl : len ≤ maxLen) (h : CodeIn w A len) (hsh : w.ShapedOpen Tryz.prog) (her : Er8 w) :
    Calls Tryz.prog 4 #[.slice A len cap] w fun e w' => e = .returned (.bool true) ∧ Below w.heap.size w w' := by
  have CB := Lib.hid (cBig A len cap w hl)
  by_cases h1 : 4096 < len
  · rw [decide_eq_true h1] at CB
    clear h h1 hl
    go_enter Tryz.func4, Tryz.ntmps4
    go_wp2_with fail
    refine CB.out.mono ?_
    rintro e w' ⟨rfl, rfl⟩
    go_wp2_with fail
    go_ret
    exact ⟨rfl, Below.refl _ _⟩
  rw [decide_eq_false h1] at CB
  have hlen : len ≤ 4096 := by omega
  have C_0 := Lib.hid (Sp.codeN h)
  have B_0 := Lib.hid (Sp.from_ w)
  have HSH : Hid (∀ W, Below w.heap.size w W → W.ShapedOpen Tryz.prog) := Lib.hid (fun W hW => shaped_below hsh hW)
  have HER : Hid (∀ W, Below w.heap.size w W → Er8 W) := Lib.hid (fun W hW => her.below hW)
  clear h h1 hl hsh her
  go_enter Tryz.func4, Tryz.ntmps4
  go_wp2_with fail
  refine CB.out.mono ?_
  rintro e w0 ⟨rfl, rfl⟩
  clear CB
  have CX1 := Lib.hid (cDrawRn A len cap w (by omega) (C_0.out.here))
  go_wp2_with fail
  refine CX1.out.mono ?_
  rintro e w1 ⟨A1, n1, c1, xs, l, y, t, rfl, hl, hy, ht, hn1, hsm1, hO1, g1⟩
  clear CX1
  have O1 := Lib.hid hO1
  have HZ1 := Lib.hid (sz_small hsm1)
  have HCAP1 := Lib.hid (own_capZ hO1)
  clear hO1 hsm1
  have C_1 := Lib.hid (C_0.out.next g1)
  have B_1 := Lib.hid (B_0.out.next g1)
  clear g1 C_0 B_0
  have L_1 := Lib.hid (Sp.row O1.out)
  clear O1 
  obtain ⟨bad, hbad⟩ : ∃ z9, z9 = rnC xs l y t := ⟨_, rfl⟩
  have Hhbad := Lib.hid hbad
  clear hbad
  obtain ⟨rs, hrs⟩ : ∃ z9, z9 = rnZ xs l y t := ⟨_, rfl⟩
  have Hhrs := Lib.hid hrs
  clear hrs
  have CX2 := Lib.hid (cRn_impl A1 n1 c1 xs l y t w1 (by omega) HZ1.out (by omega) (by omega) (own_nm (L_1.out.here)) HCAP1.out (HSH.out _ (B_1.out.here)) (HER.out _ (B_1.out.here)))
  go_wp2_with fail
  refine CX2.out.mono ?_
  rintro e w2 ⟨A2, n2, c2, e2, hO2, g2⟩
  clear CX2
  rw [← Hhbad.out] at e2
  rw [← Hhrs.out] at hO2
  subst e2
  have O2 := Lib.hid hO2
  clear hO2
  have C_2 := Lib.hid (C_1.out.next g2)
  have B_2 := Lib.hid (B_1.out.next g2)
  have L_2 := Lib.hid (L_1.out.next g2)
  clear g2 C_1 B_1 L_1
  have R_2 := Lib.hid (Sp.row O2.out)
  clear O2
  have CX3 := Lib.hid (cRn_spec A1 n1 c1 xs l y t w2 (by omega) HZ1.out (by omega) (by omega) (own_nm (L_2.out.here)))
  go_wp2_with fail
  refine CX3.out.mono ?_
  rintro e w3 ⟨A3, n3, c3, e3, hO3, g3⟩
  clear CX3
  rw [← Hhbad.out] at e3
  rw [← Hhrs.out] at hO3
  subst e3
  have O3 := Lib.hid hO3
  clear hO3
  have C_3 := Lib.hid (C_2.out.next g3)
  have B_3 := Lib.hid (B_2.out.next g3)
  have L_3 := Lib.hid (L_2.out.next g3)
  have R_3 := Lib.hid (R_2.out.next g3)
  clear g3 C_2 B_2 L_2 R_2
  have M_3 := Lib.hid (Sp.row O3.out)
  clear O3
  have CX4 := Lib.hid (cDrawUsed A len cap w3 (by omega) (C_3.out.here))
  go_wp2_with fail
  refine CX4.out.mono ?_
  rintro e w4 ⟨A4, n4, c4, us, uy, rfl, huy, hn4, hsm4, hO4, g4⟩
  clear CX4
  have O4 := Lib.hid hO4
  have HZ4 := Lib.hid (sz_small hsm4)
  have HCAP4 := Lib.hid (own_capZ hO4)
  clear hO4 hsm4
  have C_4 := Lib.hid (C_3.out.next g4)
  have B_4 := Lib.hid (B_3.out.next g4)
  have L_4 := Lib.hid (L_3.out.next g4)
  have R_4 := Lib.hid (R_3.out.next g4)
  have M_4 := Lib.hid (M_3.out.next g4)
  clear g4 C_3 B_3 L_3 R_3 M_3
  have U_4 := Lib.hid (Sp.row O4.out)
  clear O4 
  obtain ⟨one, hone⟩ : ∃ z9, z9 = qC us [] uy := ⟨_, rfl⟩
  have Hhone := Lib.hid hone
  clear hone
  obtain ⟨uz, huz⟩ : ∃ z9, z9 = usZ us uy := ⟨_, rfl⟩
  have Hhuz := Lib.hid huz
  clear huz
  have CX5 := Lib.hid (cUsedIn_impl A4 n4 c4 us uy w4 (by omega) HZ4.out (own_nm (U_4.out.here)) HCAP4.out (HSH.out _ (B_4.out.here)) (HER.out _ (B_4.out.here)).e)
  go_wp2_with fail
  refine CX5.out.mono ?_
  rintro e w5 ⟨A5, n5, c5, e5, hO5, g5⟩
  clear CX5
  rw [← Hhone.out] at e5
  rw [← Hhuz.out] at hO5
  subst e5
  have O5 := Lib.hid hO5
  clear hO5
  have C_5 := Lib.hid (C_4.out.next g5)
  have B_5 := Lib.hid (B_4.out.next g5)
  have L_5 := Lib.hid (L_4.out.next g5)
  have R_5 := Lib.hid (R_4.out.next g5)
  have M_5 := Lib.hid (M_4.out.next g5)
  have U_5 := Lib.hid (U_4.out.next g5)
  clear g5 C_4 B_4 L_4 R_4 M_4 U_4
  have a_5 := Lib.hid (Sp.row O5.out)
  clear O5
  have CX6 := Lib.hid (cUsedIn_spec A4 n4 c4 us uy w5 (by omega) HZ4.out (own_nm (U_5.out.here)))
  go_wp2_with fail
  refine CX6.out.mono ?_
  rintro e w6 ⟨A6, n6, c6, e6, hO6, g6⟩
  clear CX6
  rw [← Hhone.out] at e6
  rw [← Hhuz.out] at hO6
  subst e6
  have O6 := Lib.hid hO6
  clear hO6
  clear U_5
  have C_6 := Lib.hid (C_5.out.next g6)
  have B_6 := Lib.hid (B_5.out.next g6)
  have L_6 := Lib.hid (L_5.out.next g6)
  have R_6 := Lib.hid (R_5.out.next g6)
  have M_6 := Lib.hid (M_5.out.next g6)
  have a_6 := Lib.hid (a_5.out.next g6)
  clear g6 C_5 B_5 L_5 R_5 M_5 a_5
  have b_6 := Lib.hid (Sp.row O6.out)
  clear O6
  have CX7 := Lib.hid (cDrawOff A len cap w6 (by omega) (C_6.out.here))
  go_wp2_with fail
  refine CX7.out.mono ?_
  rintro e w7 ⟨A7, n7, c7, os, ol, oy, rfl, hol, hoy, hn7, hsm7, hO7, g7⟩
  clear CX7
  have O7 := Lib.hid hO7
  have HZ7 := Lib.hid (sz_small hsm7)
  have HCAP7 := Lib.hid (own_capZ hO7)
  clear hO7 hsm7
  have C_7 := Lib.hid (C_6.out.next g7)
  have B_7 := Lib.hid (B_6.out.next g7)
  have L_7 := Lib.hid (L_6.out.next g7)
  have R_7 := Lib.hid (R_6.out.next g7)
  have M_7 := Lib.hid (M_6.out.next g7)
  have a_7 := Lib.hid (a_6.out.next g7)
  have b_7 := Lib.hid (b_6.out.next g7)
  clear g7 C_6 B_6 L_6 R_6 M_6 a_6 b_6
  have O_7 := Lib.hid (Sp.row O7.out)
  clear O7 
  obtain ⟨three, hthree⟩ : ∃ z9, z9 = offC os ol oy := ⟨_, rfl⟩
  have Hhthree := Lib.hid hthree
  clear hthree
  obtain ⟨oz, hoz⟩ : ∃ z9, z9 = offZ os ol oy := ⟨_, rfl⟩
  have Hhoz := Lib.hid hoz
  clear hoz
  have CX8 := Lib.hid (cOff_impl A7 n7 c7 os ol oy w7 (by omega) HZ7.out (by unfold maxLen; omega) (own_nm (O_7.out.here)) HCAP7.out (HSH.out _ (B_7.out.here)) (HER.out _ (B_7.out.here)))
  go_wp2_with fail
  refine CX8.out.mono ?_
  rintro e w8 ⟨e8, g8⟩
  clear CX8
  rw [← Hhoz.out, ← Hhthree.out] at e8
  subst e8
  have C_8 := Lib.hid (C_7.out.next g8)
  have B_8 := Lib.hid (B_7.out.next g8)
  have L_8 := Lib.hid (L_7.out.next g8)
  have R_8 := Lib.hid (R_7.out.next g8)
  have M_8 := Lib.hid (M_7.out.next g8)
  have a_8 := Lib.hid (a_7.out.next g8)
  have b_8 := Lib.hid (b_7.out.next g8)
  have O_8 := Lib.hid (O_7.out.next g8)
  clear g8 C_7 B_7 L_7 R_7 M_7 a_7 b_7 O_7
  have CX9 := Lib.hid (cOff_spec A7 n7 c7 os ol oy w8 (by omega) HZ7.out (by unfold maxLen; omega) (own_nm (O_8.out.here)))
  go_wp2_with fail
  refine CX9.out.mono ?_
  rintro e w9 ⟨e9, g9⟩
  clear CX9
  rw [← Hhoz.out, ← Hhthree.out] at e9
  subst e9
  clear O_8
  have C_9 := Lib.hid (C_8.out.next g9)
  have B_9 := Lib.hid (B_8.out.next g9)
  have L_9 := Lib.hid (L_8.out.next g9)
  have R_9 := Lib.hid (R_8.out.next g9)
  have M_9 := Lib.hid (M_8.out.next g9)
  have a_9 := Lib.hid (a_8.out.next g9)
  have b_9 := Lib.hid (b_8.out.next g9)
  clear g9 C_8 B_8 L_8 R_8 M_8 a_8 b_8
  have CX10 := Lib.hid (cDrawBe A len cap w9 (by omega) (C_9.out.here))
  go_wp2_with fail
  refine CX10.out.mono ?_
  rintro e w10 ⟨A10, n10, c10, bs, Ab, nb, cb, chain, yb, rfl, hnb, hcz, hOb, hn10, hsm10, hO10, g10⟩
  clear CX10
  have O10 := Lib.hid hO10
  have HZ10 := Lib.hid (sz_small hsm10)
  have HCAP10 := Lib.hid (own_capZ hO10)
  clear hO10 hsm10
  have hObx := Lib.hid hOb
  clear hOb
  have C_10 := Lib.hid (C_9.out.next g10)
  have B_10 := Lib.hid (B_9.out.next g10)
  have L_10 := Lib.hid (L_9.out.next g10)
  have R_10 := Lib.hid (R_9.out.next g10)
  have M_10 := Lib.hid (M_9.out.next g10)
  have a_10 := Lib.hid (a_9.out.next g10)
  have b_10 := Lib.hid (b_9.out.next g10)
  clear g10 C_9 B_9 L_9 R_9 M_9 a_9 b_9
  have N_10 := Lib.hid (Sp.row O10.out)
  have T_10 := Lib.hid (Sp.row hObx.out)
  clear O10 hObx
  have HCZ : Hid (∀ x ∈ chain, x.size ≤ maxLen) := Lib.hid (fun x hx => by have := hcz x hx; unfold maxLen; omega)
  clear hcz
  obtain ⟨five, hfive⟩ : ∃ z9, z9 = beC bs chain yb := ⟨_, rfl⟩
  have Hhfive := Lib.hid hfive
  clear hfive
  obtain ⟨bz, hbz⟩ : ∃ z9, z9 = beZ bs chain yb := ⟨_, rfl⟩
  have Hhbz := Lib.hid hbz
  clear hbz
  have CX11 := Lib.hid (cBest_impl A10 Ab n10 c10 nb cb bs chain yb w10 (by omega) (by omega) HZ10.out HCZ.out (own_nm (N_10.out.here)) HCAP10.out (own_text (T_10.out.here)) (HSH.out _ (B_10.out.here)) (HER.out _ (B_10.out.here)))
  go_wp2_with fail
  refine CX11.out.mono ?_
  rintro e w11 ⟨e11, g11⟩
  clear CX11
  rw [← Hhbz.out, ← Hhfive.out] at e11
  subst e11
  have C_11 := Lib.hid (C_10.out.next g11)
  have B_11 := Lib.hid (B_10.out.next g11)
  have L_11 := Lib.hid (L_10.out.next g11)
  have R_11 := Lib.hid (R_10.out.next g11)
  have M_11 := Lib.hid (M_10.out.next g11)
  have a_11 := Lib.hid (a_10.out.next g11)
  have b_11 := Lib.hid (b_10.out.next g11)
  have N_11 := Lib.hid (N_10.out.next g11)
  have T_11 := Lib.hid (T_10.out.next g11)
  clear g11 C_10 B_10 L_10 R_10 M_10 a_10 b_10 N_10 T_10
  have CX12 := Lib.hid (cBest_spec A10 Ab n10 c10 nb cb bs chain yb w11 (by omega) (by omega) HZ10.out HCZ.out (own_nm (N_11.out.here)) (own_text (T_11.out.here)))
  go_wp2_with fail
  refine CX12.out.mono ?_
  rintro e w12 ⟨e12, g12⟩
  clear CX12
  rw [← Hhbz.out, ← Hhfive.out] at e12
  subst e12
  have C_12 := Lib.hid (C_11.out.next g12)
  have B_12 := Lib.hid (B_11.out.next g12)
  have L_12 := Lib.hid (L_11.out.next g12)
  have R_12 := Lib.hid (R_11.out.next g12)
  have M_12 := Lib.hid (M_11.out.next g12)
  have a_12 := Lib.hid (a_11.out.next g12)
  have b_12 := Lib.hid (b_11.out.next g12)
  have N_12 := Lib.hid (N_11.out.next g12)
  have T_12 := Lib.hid (T_11.out.next g12)
  clear g12 C_11 B_11 L_11 R_11 M_11 a_11 b_11 N_11 T_11
  have CX13 := Lib.hid (cDrawLangs A len cap w12 (by omega) (C_12.out.here))
  go_wp2_with fail
  refine CX13.out.mono ?_
  rintro e w13 ⟨A13, n13, c13, gs, rfl, hn13, hsm13, hO13, g13⟩
  clear CX13
  have O13 := Lib.hid hO13
  have HZ13 := Lib.hid (sz_small hsm13)
  have HCAP13 := Lib.hid (own_capZ hO13)
  clear hO13 hsm13
  have C_13 := Lib.hid (C_12.out.next g13)
  have B_13 := Lib.hid (B_12.out.next g13)
  have L_13 := Lib.hid (L_12.out.next g13)
  have R_13 := Lib.hid (R_12.out.next g13)
  have M_13 := Lib.hid (M_12.out.next g13)
  have a_13 := Lib.hid (a_12.out.next g13)
  have b_13 := Lib.hid (b_12.out.next g13)
  have N_13 := Lib.hid (N_12.out.next g13)
  have T_13 := Lib.hid (T_12.out.next g13)
  clear g13 C_12 B_12 L_12 R_12 M_12 a_12 b_12 N_12 T_12
  have G_13 := Lib.hid (Sp.row O13.out)
  clear O13 
  obtain ⟨seven, hseven⟩ : ∃ z9, z9 = lgC gs := ⟨_, rfl⟩
  have Hhseven := Lib.hid hseven
  clear hseven
  obtain ⟨lz, hlz⟩ : ∃ z9, z9 = lgZ gs := ⟨_, rfl⟩
  have Hhlz := Lib.hid hlz
  clear hlz
  have CX14 := Lib.hid (cLang_of A13 n13 c13 gs w13 (by omega) HZ13.out (own_nm (G_13.out.here)) HCAP13.out (HSH.out _ (B_13.out.here)) (HER.out _ (B_13.out.here)).e.e)
  go_wp2_with fail
  refine CX14.out.mono ?_
  rintro e w14 ⟨A14, n14, c14, e14, hO14, g14⟩
  clear CX14
  rw [← Hhseven.out] at e14
  rw [← Hhlz.out] at hO14
  subst e14
  have O14 := Lib.hid hO14
  clear hO14
  have C_14 := Lib.hid (C_13.out.next g14)
  have B_14 := Lib.hid (B_13.out.next g14)
  have L_14 := Lib.hid (L_13.out.next g14)
  have R_14 := Lib.hid (R_13.out.next g14)
  have M_14 := Lib.hid (M_13.out.next g14)
  have a_14 := Lib.hid (a_13.out.next g14)
  have b_14 := Lib.hid (b_13.out.next g14)
  have N_14 := Lib.hid (N_13.out.next g14)
  have T_14 := Lib.hid (T_13.out.next g14)
  have G_14 := Lib.hid (G_13.out.next g14)
  clear g14 C_13 B_13 L_13 R_13 M_13 a_13 b_13 N_13 T_13 G_13
  have c_14 := Lib.hid (Sp.row O14.out)
  clear O14
  have CX15 := Lib.hid (cLang_spec9 A13 n13 c13 gs w14 (by omega) HZ13.out (own_nm (G_14.out.here)))
  go_wp2_with fail
  refine CX15.out.mono ?_
  rintro e w15 ⟨A15, n15, c15, e15, hO15, g15⟩
  clear CX15
  rw [← Hhseven.out] at e15
  rw [← Hhlz.out] at hO15
  subst e15
  have O15 := Lib.hid hO15
  clear hO15
  clear C_14
  have B_15 := Lib.hid (B_14.out.next g15)
  have L_15 := Lib.hid (L_14.out.next g15)
  have R_15 := Lib.hid (R_14.out.next g15)
  have M_15 := Lib.hid (M_14.out.next g15)
  have a_15 := Lib.hid (a_14.out.next g15)
  have b_15 := Lib.hid (b_14.out.next g15)
  have N_15 := Lib.hid (N_14.out.next g15)
  have T_15 := Lib.hid (T_14.out.next g15)
  have G_15 := Lib.hid (G_14.out.next g15)
  have c_15 := Lib.hid (c_14.out.next g15)
  clear g15 B_14 L_14 R_14 M_14 a_14 b_14 N_14 T_14 G_14 c_14
  have d_15 := Lib.hid (Sp.row O15.out)
  clear O15
  have HRN : Hid (bad = 0 → namesB rs = true ∧ (-3000 ≤ y ∧ y ≤ 3000) ∧ (offC rs l y = 0 ∧ ∃ (k : Nat) (c : Nm), offZ rs l y = (k : Int) ∧ rs[k]? = some c ∧ c.t = t) ∧
      ∀ z, -3000 ≤ z → z < y → (offC xs l z = 4 ∧ offC rs l z = 4) ∨ (offC xs l z = 0 ∧ offC rs l z = 0 ∧ ∃ (i j : Nat) (a c : Nm), offZ xs l z = (i : Int) ∧ xs[i]? = some a ∧ offZ rs l z = (j : Int) ∧ rs[j]? = some c ∧ c.t = a.t)) := Lib.hid (fun h0 => by rw [Hhrs.out]; exact rn_facts (by rw [← Hhbad.out]; exact h0))
  have HRZ : Hid (Sz9 rs) := Lib.hid (by rw [Hhrs.out]; exact rn_sz HZ1.out (by omega) (by omega))
  have HBE : Hid (five = 0 → ∃ (b : Nat) (x : Nm), bz = (b : Int) ∧ bs[b]? = some x ∧ x.l ∈ chain) := Lib.hid (fun h0 => by rw [Hhbz.out]; exact be_facts (by rw [← Hhfive.out]; exact h0))
  have hgc : (namesB gs == (seven == 0)) = true := by rw [Hhseven.out]; exact lg_code gs
  have hn2 : n2 ≤ 1048576 := by
    have h1 := (own_nm (R_15.out.here)).1
    have h2 := rnZ_len xs l y t
    rw [← Hhrs.out] at h2; omega
  have hn5 : n5 ≤ 1048576 := by
    have h1 := (own_num (a_15.out.here)).1
    have h2 := usZ_len9 us uy
    rw [← Hhuz.out] at h2; omega
  have hn14 : n14 ≤ 1048576 := by
    have h1 := own_lenT (c_15.out.here)
    have h2 := lgZ_len gs
    rw [← Hhlz.out] at h2; omega
  obtain rfl : n15 = n14 := (own_lenT (d_15.out.here)).trans (own_lenT (c_15.out.here)).symm
  have HCAP2 := Lib.hid (own_capZ (R_15.out.here))
  clear Hhbad Hhrs Hhone Hhuz Hhthree Hhoz Hhfive Hhbz Hhseven Hhlz HZ4 HCAP4 HZ7 HCAP7 HCZ
  have zi : ∀ a : Int, (a != a) = false := fun a => bne_self_eq_false' a
  have z1 := zi bad
  have z2 := zi one
  have z3 := zi three
  have z4 := zi oz
  have z5 := zi five
  have z6 := zi bz
  have z7 := zi seven
  clear zi
  have CX16 := Lib.hid (cLikeNm A2 A3 n2 n3 c2 c3 rs w15 (by omega) (own_nm (R_15.out.here)) (own_nm (M_15.out.here)))
  go_wp2_with fail
  refine CX16.out.mono ?_
  rintro e w16 ⟨rfl, g16⟩
  clear CX16
  clear M_15
  have B_16 := Lib.hid (B_15.out.next g16)
  have L_16 := Lib.hid (L_15.out.next g16)
  have R_16 := Lib.hid (R_15.out.next g16)
  have a_16 := Lib.hid (a_15.out.next g16)
  have b_16 := Lib.hid (b_15.out.next g16)
  have N_16 := Lib.hid (N_15.out.next g16)
  have T_16 := Lib.hid (T_15.out.next g16)
  have G_16 := Lib.hid (G_15.out.next g16)
  have c_16 := Lib.hid (c_15.out.next g16)
  have d_16 := Lib.hid (d_15.out.next g16)
  clear g16 B_15 L_15 R_15 a_15 b_15 N_15 T_15 G_15 c_15 d_15
  have CX17 := Lib.hid (likeN A5 A6 n5 n6 c5 c6 uz w16 (by omega) (own_num (a_16.out.here)) (own_num (b_16.out.here)))
  go_wp2_with fail
  refine CX17.out.mono ?_
  rintro e w17 ⟨rfl, g17⟩
  clear CX17
  clear a_16
  clear b_16
  have B_17 := Lib.hid (B_16.out.next g17)
  have L_17 := Lib.hid (L_16.out.next g17)
  have R_17 := Lib.hid (R_16.out.next g17)
  have N_17 := Lib.hid (N_16.out.next g17)
  have T_17 := Lib.hid (T_16.out.next g17)
  have G_17 := Lib.hid (G_16.out.next g17)
  have c_17 := Lib.hid (c_16.out.next g17)
  have d_17 := Lib.hid (d_16.out.next g17)
  clear g17 B_16 L_16 R_16 N_16 T_16 G_16 c_16 d_16
  have CX18 := Lib.hid (cLikeT A14 A15 c14 c15 n15 _ _ lz w17 (by omega) (own_text (c_17.out.here)) (own_text (d_17.out.here)))
  go_wp2_with fail
  refine CX18.out.mono ?_
  rintro e w18 ⟨rfl, g18⟩
  clear CX18
  clear c_17
  clear d_17
  have B_18 := Lib.hid (B_17.out.next g18)
  have L_18 := Lib.hid (L_17.out.next g18)
  have R_18 := Lib.hid (R_17.out.next g18)
  have N_18 := Lib.hid (N_17.out.next g18)
  have T_18 := Lib.hid (T_17.out.next g18)
  have G_18 := Lib.hid (G_17.out.next g18)
  clear g18 B_17 L_17 R_17 N_17 T_17 G_17
  have CX19 := Lib.hid (cAreN_impl A13 n13 c13 gs w18 (by omega) HZ13.out (own_nm (G_18.out.here)) HCAP13.out (HSH.out _ (B_18.out.here)) (HER.out _ (B_18.out.here)).e.e)
  go_wp2_with fail
  refine CX19.out.mono ?_
  rintro e w19 ⟨rfl, g19⟩
  clear CX19
  clear HZ13 HCAP13 z1 z2 z3 z4 z5 z6 z7
  clear G_18
  have B_19 := Lib.hid (B_18.out.next g19)
  have L_19 := Lib.hid (L_18.out.next g19)
  have R_19 := Lib.hid (R_18.out.next g19)
  have N_19 := Lib.hid (N_18.out.next g19)
  have T_19 := Lib.hid (T_18.out.next g19)
  clear g19 B_18 L_18 R_18 N_18 T_18
  by_cases hf : five = 0
  · skip
    obtain ⟨b, x, rfl, hbx, hxl⟩ := HBE.out hf
    subst hf
    have HXL := Lib.hid hxl
    have HBX := Lib.hid hbx
    clear HBE hxl hbx
    obtain ⟨nb9, no9, hA10, _, c0, c1, c2, c3, c4⟩ := (own_nm (N_19.out.here)).row HBX.out
    have k1 : (0 : Int) ≤ (b : Int) := Int.natCast_nonneg _
    have k2 : (b : Int) < (n10 : Int) := by have h1 := (List.getElem?_eq_some_iff.1 HBX.out).1; have h2 := (own_nm (N_19.out.here)).1; omega
    subst hA10
    clear c0 c2 c3 c4 HBX
    have CX20 := Lib.hid (tHasT x.l Ab nb cb _ chain w19 (by omega) HXL.out (own_text (T_19.out.here)))
    clear HXL
    go_wp2_with fail
    refine CX20.out.mono ?_
    rintro e w20 ⟨rfl, rfl⟩
    clear CX20 c1 k1 k2 hgc
    by_cases hbd : bad = 0
    · skip
      obtain ⟨f1, f2, ⟨f3, k, cn, f4, f5, f6⟩, F7⟩ := HRN.out hbd
      have HF7 := Lib.hid F7
      clear F7 HRN
      subst hbd
      have e20 : Hid (namesB rs = true) := Lib.hid f1
      clear f1
      have CX30 := Lib.hid (cOff_impl A2 n2 c2 rs l y w19 (by omega) HRZ.out (by unfold maxLen; omega) (own_nm (R_19.out.here)) HCAP2.out (HSH.out _ (B_19.out.here)) (HER.out _ (B_19.out.here)))
      rw [f4, f3] at CX30
      clear f3 f4
      have HF5 := Lib.hid f5
      have HF6 := Lib.hid f6
      clear f5 f6
      go_wp2_with fail
      refine CX30.out.mono ?_
      rintro e w30 ⟨rfl, g30⟩
      clear CX30
      have B_30 := Lib.hid (B_19.out.next g30)
      have L_30 := Lib.hid (L_19.out.next g30)
      have R_30 := Lib.hid (R_19.out.next g30)
      clear g30 B_19 L_19 R_19
      obtain ⟨rb, ro, hA2, hrl, c0, c1, c2, c3, c4⟩ := (own_nm (R_30.out.here)).row HF5.out
      have k1 : (0 : Int) ≤ (k : Int) := Int.natCast_nonneg _
      have k2 : (k : Int) < (n2 : Int) := by have h1 := (List.getElem?_eq_some_iff.1 HF5.out).1; have h2 := (own_nm (R_30.out.here)).1; omega
      rw [HF6.out] at c0
      have htt : (t.toList != t.toList) = false := by simp
      subst hA2
      clear c1 c2 c3 c4 hrl HF5 HF6
      have CX31 := Lib.hid (cAreN_impl (some ⟨rb, ro, none⟩) n2 c2 rs w30 (by omega) HRZ.out (own_nm (R_30.out.here)) HCAP2.out (HSH.out _ (B_30.out.here)) (HER.out _ (B_30.out.here)).e.e)
      rw [e20.out] at CX31
      clear e20
      go_wp2_with fail
      refine CX31.out.mono ?_
      rintro e w31 ⟨rfl, g31⟩
      clear CX31 c0 k1 k2 htt
      have B_31 := Lib.hid (B_30.out.next g31)
      have L_31 := Lib.hid (L_30.out.next g31)
      have R_31 := Lib.hid (R_30.out.next g31)
      clear g31 B_30 L_30 R_30
      go_wp2_with fail
      go_loopw [38] (fun i wr => ∃ m : Nat, i = .int .i64 m ∧ 1 ≤ m ∧ m ≤ 4 ∧ Hid (Below w31.heap.size w31 wr)) (fun i _ => 4 - (intOf i).toNat)
      case atStart => exact ⟨1, rfl, by omega, by omega, Lib.hid (Below.refl _ _)⟩
      case round =>
        obtain ⟨m, rfl, hm1, hm4, HBW⟩ := hrel
        have L_x := Lib.hid (L_31.out.next HBW.out)
        have R_x := Lib.hid (R_31.out.next HBW.out)
        have B_x := Lib.hid (B_31.out.next HBW.out)
        by_cases hm : m < 4
        · by_cases hz : -3000 ≤ y - (m : Int)
          · have CX40 := Lib.hid (cOff_impl A1 n1 c1 xs l (y - (m : Int)) wr (by omega) HZ1.out (by unfold maxLen; omega) (own_nm L_x.out.here) HCAP1.out (HSH.out _ B_x.out.here) (HER.out _ B_x.out.here))
            have CX41 := Lib.hid (fun W (hW : Below wr.heap.size wr W) => cOff_impl (some ⟨rb, ro, none⟩) n2 c2 rs l (y - (m : Int)) W (by omega) HRZ.out (by unfold maxLen; omega) (own_nm (R_x.out.next hW).here) HCAP2.out (HSH.out _ (B_x.out.next hW).here) (HER.out _ (B_x.out.next hW).here))
            have hcs := HF7.out (y - (m : Int)) hz (by omega)
            have z0 : (m : Int) < 4 := by omega
            rcases hcs with ⟨p1, p2⟩ | ⟨p1, p2, i1, j1, a1, b1, p3, p4, p5, p6, p7⟩
            · obtain ⟨q1, hq1⟩ : ∃ q, q = offZ xs l (y - (m : Int)) := ⟨_, rfl⟩
              obtain ⟨q2, hq2⟩ : ∃ q, q = offZ rs l (y - (m : Int)) := ⟨_, rfl⟩
              rw [p1, ← hq1] at CX40
              rw [p2, ← hq2] at CX41
              clear p1 p2 hq1 hq2
              go_wp2_with fail
              refine CX40.out.mono ?_
              rintro e w40 ⟨rfl, g40⟩
              have HB40 := Lib.hid (HBW.out.trans (g40.mono HBW.out.size))
              have CX42 := Lib.hid (CX41.out _ g40)
              clear CX40 CX41 g40 HBW L_x R_x B_x
              go_wp2_with fail
              refine CX42.out.mono ?_
              rintro e w41 ⟨rfl, g41⟩
              have HB41 := Lib.hid (HB40.out.trans (g41.mono HB40.out.size))
              clear CX42 g41 HB40
              go_wp2_with fail
              go_quiet (fail)
              go_wp2_with fail
              go_roundw
              case rel => exact ⟨m + 1, by go_num, by omega, by omega, Lib.hid (below_drN9 HB41.out _)⟩
              case measure => simp [intOf]; omega
            · rw [p1, p3] at CX40
              rw [p2, p5] at CX41
              clear p1 p2 p3 p5
              have HP4 := Lib.hid p4
              have HP6 := Lib.hid p6
              have HP7 := Lib.hid p7
              clear p4 p6 p7
              go_wp2_with fail
              refine CX40.out.mono ?_
              rintro e w40 ⟨rfl, g40⟩
              have HB40 := Lib.hid (HBW.out.trans (g40.mono HBW.out.size))
              have CX42 := Lib.hid (CX41.out _ g40)
              have L_y := Lib.hid (L_x.out.next g40)
              have R_y := Lib.hid (R_x.out.next g40)
              clear CX40 CX41 g40 HBW L_x R_x B_x
              go_wp2_with fail
              refine CX42.out.mono ?_
              rintro e w41 ⟨rfl, g41⟩
              have HB41 := Lib.hid (HB40.out.trans (g41.mono HB40.out.size))
              obtain ⟨ab, ao, hA1, _, s0, s1, s2, s3, s4⟩ := (own_nm (L_y.out.next g41).here).row HP4.out
              obtain ⟨rb2, ro2, hA2, _, r0, r1, r2, r3, r4⟩ := (own_nm (R_y.out.next g41).here).row HP6.out
              obtain ⟨rfl, rfl⟩ : rb = rb2 ∧ ro = ro2 := by injection hA2 with e1; injection e1 with e1 e2; exact ⟨e1, e2⟩
              rw [HP7.out] at r0
              have u1 : (0 : Int) ≤ (i1 : Int) := Int.natCast_nonneg _
              have u2 : (i1 : Int) < (n1 : Int) := by have h1 := (List.getElem?_eq_some_iff.1 HP4.out).1; have h2 := (own_nm (L_y.out.next g41).here).1; omega
              have u3 : (0 : Int) ≤ (j1 : Int) := Int.natCast_nonneg _
              have u4 : (j1 : Int) < (n2 : Int) := by have h1 := (List.getElem?_eq_some_iff.1 HP6.out).1; have h2 := (own_nm (R_y.out.next g41).here).1; omega
              have htt : (a1.t.toList != a1.t.toList) = false := by simp
              subst hA1
              clear CX42 g41 HB40 L_y R_y HP4 HP6 HP7 s1 s2 s3 s4 r1 r2 r3 r4 hA2
              go_wp2_with fail
              go_quiet (fail)
              go_wp2_with fail
              go_roundw
              case rel => exact ⟨m + 1, by go_num, by omega, by omega, Lib.hid (below_drN9 HB41.out _)⟩
              case measure => simp [intOf]; omega
          · have z0 : (m : Int) < 4 := by omega
            have HB9 := Lib.hid B_x.out.here
            clear HBW L_x R_x B_x
            go_wp2_with fail
            go_ret
            exact ⟨rfl, HB9.out⟩
        · have z0 : ¬ (m : Int) < 4 := by omega
          have HB9 := Lib.hid B_x.out.here
          clear HBW L_x R_x B_x
          go_wp2_with fail
          go_ret
          exact ⟨rfl, HB9.out⟩
    · skip
      have hbn : (bad != 0) = true := by simp [hbd]
      have HB9 := Lib.hid (B_19.out.here)
      clear hbd HRN B_19 L_19 R_19
      go_wp2_with fail
      go_ret
      exact ⟨rfl, HB9.out⟩
  · skip
    have hfn : (five == 0) = false := by simp [hf]
    clear hf HBE
    by_cases hbd : bad = 0
    · skip
      obtain ⟨f1, f2, ⟨f3, k, cn, f4, f5, f6⟩, F7⟩ := HRN.out hbd
      have HF7 := Lib.hid F7
      clear F7 HRN
      subst hbd
      have e20 : Hid (namesB rs = true) := Lib.hid f1
      clear f1
      have CX30 := Lib.hid (cOff_impl A2 n2 c2 rs l y w19 (by omega) HRZ.out (by unfold maxLen; omega) (own_nm (R_19.out.here)) HCAP2.out (HSH.out _ (B_19.out.here)) (HER.out _ (B_19.out.here)))
      rw [f4, f3] at CX30
      clear f3 f4
      have HF5 := Lib.hid f5
      have HF6 := Lib.hid f6
      clear f5 f6
      go_wp2_with fail
      refine CX30.out.mono ?_
      rintro e w30 ⟨rfl, g30⟩
      clear CX30
      have B_30 := Lib.hid (B_19.out.next g30)
      have L_30 := Lib.hid (L_19.out.next g30)
      have R_30 := Lib.hid (R_19.out.next g30)
      clear g30 B_19 L_19 R_19
      obtain ⟨rb, ro, hA2, hrl, c0, c1, c2, c3, c4⟩ := (own_nm (R_30.out.here)).row HF5.out
      have k1 : (0 : Int) ≤ (k : Int) := Int.natCast_nonneg _
      have k2 : (k : Int) < (n2 : Int) := by have h1 := (List.getElem?_eq_some_iff.1 HF5.out).1; have h2 := (own_nm (R_30.out.here)).1; omega
      rw [HF6.out] at c0
      have htt : (t.toList != t.toList) = false := by simp
      subst hA2
      clear c1 c2 c3 c4 hrl HF5 HF6
      have CX31 := Lib.hid (cAreN_impl (some ⟨rb, ro, none⟩) n2 c2 rs w30 (by omega) HRZ.out (own_nm (R_30.out.here)) HCAP2.out (HSH.out _ (B_30.out.here)) (HER.out _ (B_30.out.here)).e.e)
      rw [e20.out] at CX31
      clear e20
      go_wp2_with fail
      refine CX31.out.mono ?_
      rintro e w31 ⟨rfl, g31⟩
      clear CX31 c0 k1 k2 htt
      have B_31 := Lib.hid (B_30.out.next g31)
      have L_31 := Lib.hid (L_30.out.next g31)
      have R_31 := Lib.hid (R_30.out.next g31)
      clear g31 B_30 L_30 R_30
      go_wp2_with fail
      go_loopw [38] (fun i wr => ∃ m : Nat, i = .int .i64 m ∧ 1 ≤ m ∧ m ≤ 4 ∧ Hid (Below w31.heap.size w31 wr)) (fun i _ => 4 - (intOf i).toNat)
      case atStart => exact ⟨1, rfl, by omega, by omega, Lib.hid (Below.refl _ _)⟩
      case round =>
        obtain ⟨m, rfl, hm1, hm4, HBW⟩ := hrel
        have L_x := Lib.hid (L_31.out.next HBW.out)
        have R_x := Lib.hid (R_31.out.next HBW.out)
        have B_x := Lib.hid (B_31.out.next HBW.out)
        by_cases hm : m < 4
        · by_cases hz : -3000 ≤ y - (m : Int)
          · have CX40 := Lib.hid (cOff_impl A1 n1 c1 xs l (y - (m : Int)) wr (by omega) HZ1.out (by unfold maxLen; omega) (own_nm L_x.out.here) HCAP1.out (HSH.out _ B_x.out.here) (HER.out _ B_x.out.here))
            have CX41 := Lib.hid (fun W (hW : Below wr.heap.size wr W) => cOff_impl (some ⟨rb, ro, none⟩) n2 c2 rs l (y - (m : Int)) W (by omega) HRZ.out (by unfold maxLen; omega) (own_nm (R_x.out.next hW).here) HCAP2.out (HSH.out _ (B_x.out.next hW).here) (HER.out _ (B_x.out.next hW).here))
            have hcs := HF7.out (y - (m : Int)) hz (by omega)
            have z0 : (m : Int) < 4 := by omega
            rcases hcs with ⟨p1, p2⟩ | ⟨p1, p2, i1, j1, a1, b1, p3, p4, p5, p6, p7⟩
            · obtain ⟨q1, hq1⟩ : ∃ q, q = offZ xs l (y - (m : Int)) := ⟨_, rfl⟩
              obtain ⟨q2, hq2⟩ : ∃ q, q = offZ rs l (y - (m : Int)) := ⟨_, rfl⟩
              rw [p1, ← hq1] at CX40
              rw [p2, ← hq2] at CX41
              clear p1 p2 hq1 hq2
              go_wp2_with fail
              refine CX40.out.mono ?_
              rintro e w40 ⟨rfl, g40⟩
              have HB40 := Lib.hid (HBW.out.trans (g40.mono HBW.out.size))
              have CX42 := Lib.hid (CX41.out _ g40)
              clear CX40 CX41 g40 HBW L_x R_x B_x
              go_wp2_with fail
              refine CX42.out.mono ?_
              rintro e w41 ⟨rfl, g41⟩
              have HB41 := Lib.hid (HB40.out.trans (g41.mono HB40.out.size))
              clear CX42 g41 HB40
              go_wp2_with fail
              go_quiet (fail)
              go_wp2_with fail
              go_roundw
              case rel => exact ⟨m + 1, by go_num, by omega, by omega, Lib.hid (below_drN9 HB41.out _)⟩
              case measure => simp [intOf]; omega
            · rw [p1, p3] at CX40
              rw [p2, p5] at CX41
              clear p1 p2 p3 p5
              have HP4 := Lib.hid p4
              have HP6 := Lib.hid p6
              have HP7 := Lib.hid p7
              clear p4 p6 p7
              go_wp2_with fail
              refine CX40.out.mono ?_
              rintro e w40 ⟨rfl, g40⟩
              have HB40 := Lib.hid (HBW.out.trans (g40.mono HBW.out.size))
              have CX42 := Lib.hid (CX41.out _ g40)
              have L_y := Lib.hid (L_x.out.next g40)
              have R_y := Lib.hid (R_x.out.next g40)
              clear CX40 CX41 g40 HBW L_x R_x B_x
              go_wp2_with fail
              refine CX42.out.mono ?_
              rintro e w41 ⟨rfl, g41⟩
              have HB41 := Lib.hid (HB40.out.trans (g41.mono HB40.out.size))
              obtain ⟨ab, ao, hA1, _, s0, s1, s2, s3, s4⟩ := (own_nm (L_y.out.next g41).here).row HP4.out
              obtain ⟨rb2, ro2, hA2, _, r0, r1, r2, r3, r4⟩ := (own_nm (R_y.out.next g41).here).row HP6.out
              obtain ⟨rfl, rfl⟩ : rb = rb2 ∧ ro = ro2 := by injection hA2 with e1; injection e1 with e1 e2; exact ⟨e1, e2⟩
              rw [HP7.out] at r0
              have u1 : (0 : Int) ≤ (i1 : Int) := Int.natCast_nonneg _
              have u2 : (i1 : Int) < (n1 : Int) := by have h1 := (List.getElem?_eq_some_iff.1 HP4.out).1; have h2 := (own_nm (L_y.out.next g41).here).1; omega
              have u3 : (0 : Int) ≤ (j1 : Int) := Int.natCast_nonneg _
              have u4 : (j1 : Int) < (n2 : Int) := by have h1 := (List.getElem?_eq_some_iff.1 HP6.out).1; have h2 := (own_nm (R_y.out.next g41).here).1; omega
              have htt : (a1.t.toList != a1.t.toList) = false := by simp
              subst hA1
              clear CX42 g41 HB40 L_y R_y HP4 HP6 HP7 s1 s2 s3 s4 r1 r2 r3 r4 hA2
              go_wp2_with fail
              go_quiet (fail)
              go_wp2_with fail
              go_roundw
              case rel => exact ⟨m + 1, by go_num, by omega, by omega, Lib.hid (below_drN9 HB41.out _)⟩
              case measure => simp [intOf]; omega
          · have z0 : (m : Int) < 4 := by omega
            have HB9 := Lib.hid B_x.out.here
            clear HBW L_x R_x B_x
            go_wp2_with fail
            go_ret
            exact ⟨rfl, HB9.out⟩
        · have z0 : ¬ (m : Int) < 4 := by omega
          have HB9 := Lib.hid B_x.out.here
          clear HBW L_x R_x B_x
          go_wp2_with fail
          go_ret
          exact ⟨rfl, HB9.out⟩
    · skip
      have hbn : (bad != 0) = true := by simp [hbd]
      have HB9 := Lib.hid (B_19.out.here)
      clear hbd HRN B_19 L_19 R_19
      go_wp2_with fail
      go_ret
      exact ⟨rfl, HB9.out⟩

end Go.Proofs.YthlilfdndpnbkaaGreatDoor
