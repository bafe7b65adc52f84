/-
  The law of places by name: places with a name exist in the year of its use; each answer is the reference's.
-/
import Derived.Test.YtglmibmjbignbaaGreatDoorGnD
import Derived.Test.YtglmibmjbignbaaGreatDoorMy23
import Derived.Test.YtglmibmjbignbaaGreatDoorMy26
import Derived.Test.YtglmibmjbignbaaGreatDoorMy27
import Derived.Test.YtglmibmjbignbaaGreatDoorMy28
import Derived.Test.YtglmibmjbignbaaGreatDoorMy29
import Derived.Test.YtglmibmjbignbaaGreatDoorMy30
import Derived.Test.YtglmibmjbignbaaGreatDoorCodeArg
import Derived.Test.YtglmibmjbignbaaGreatDoorMy12
namespace Go.Proofs.YtglmibmjbignbaaGreatDoor
set_option linter.unusedVariables false
open Go.RowKit

theorem Sp.codeG {w : World} {A : Option Addr} {len : Nat} (h : CodeIn w A len) : Sp 0 w.heap.size (fun W => CodeIn W A len) w := ⟨Nat.le_refl _, fun W hW => h.belowG hW.below⟩
theorem sz_smq {ps : List Pl} (h : ∀ p ∈ ps, SmQ p) : Sz11 ps := fun p hp => smq_sz (h p hp)
set_option maxHeartbeats 16000000 in
set_option maxRecDepth 100000 in
theorem wPBN (A : Option Addr) (len cap : Nat) (w : World) (hl : len ≤ maxLen) (h : CodeIn w A len) (hsh : w.ShapedOpen Tryz.prog) (her : Er8 w) :
    Calls Tryz.prog 4 #[.slice A len cap] w fun e w' => e = .returned (.bool true) ∧ Below w.heap.size w w' := by
  have CB := Lib.hid (cBig A len cap w hl)
  by_cases h1 : 4096 < len
  · rw [decide_eq_true h1] at CB
    clear h h1 hl
    go_enter Tryz.func4, Tryz.ntmps4
    go_wp2_with fail
    refine CB.out.mono ?_
    rintro e w' ⟨rfl, rfl⟩
    go_wp2_with fail
    go_ret
    exact ⟨rfl, Below.refl _ _⟩
  rw [decide_eq_false h1] at CB
  have hlen : len ≤ 4096 := by omega
  have C_0 := Lib.hid (Sp.codeG h)
  have B_0 := Lib.hid (Sp.from_ w)
  have HSH : Hid (∀ W, Below w.heap.size w W → W.ShapedOpen Tryz.prog) := Lib.hid (fun W hW => shaped_below hsh hW)
  have HER : Hid (∀ W, Below w.heap.size w W → Er8 W) := Lib.hid (fun W hW => her.below hW)
  clear h h1 hl hsh her
  go_enter Tryz.func4, Tryz.ntmps4
  go_wp2_with fail
  refine CB.out.mono ?_
  rintro e w0 ⟨rfl, rfl⟩
  clear CB
  have CX1 := Lib.hid (cDrawPN A len cap w (by omega) (C_0.out.here))
  go_wp2_with fail
  refine CX1.out.mono ?_
  rintro e w1 ⟨Ap, np, cp, ps, tx, y, rfl, htx, hy, hn1, hsm1, ⟨es1, he1, ho1⟩, g1⟩
  clear CX1
  have HEp := Lib.hid he1
  have HO1 := Lib.hid ho1
  have HZp := Lib.hid (sz_smq hsm1)
  clear he1 ho1 hsm1
  have C_1 := Lib.hid (C_0.out.next g1)
  have B_1 := Lib.hid (B_0.out.next g1)
  clear g1 C_0 B_0
  have Lp_1 := Lib.hid (Sp.own HO1.out (Nat.le_refl _))
  clear HO1
  obtain ⟨bad, hbad⟩ : ∃ z9, z9 = pnC ps tx y := ⟨_, rfl⟩
  have Hbad := Lib.hid hbad
  clear hbad
  obtain ⟨zp, hzp⟩ : ∃ z9, z9 = pnZ ps tx y := ⟨_, rfl⟩
  have Hzp := Lib.hid hzp
  clear hzp
  have HLzp : Hid (zp.length ≤ 1048576) := Lib.hid (by rw [Hzp.out]; exact pnZ_len ps tx y)
  have CX2 := Lib.hid (cNm_impl Ap np cp ps tx y w1 (by omega) HZp.out (by omega) (own_pl2 (Lp_1.out.here) HEp.out) (HSH.out _ (B_1.out.here)) (HER.out _ (B_1.out.here)).e.e)
  go_wp2_with fail
  refine CX2.out.mono ?_
  rintro e w2 ⟨A2, n2, c2, e2, hO2, g2⟩
  clear CX2
  rw [← Hbad.out] at e2
  rw [← Hzp.out] at hO2
  subst e2
  have O2 := Lib.hid hO2
  clear hO2
  have C_2 := Lib.hid (C_1.out.next g2)
  have B_2 := Lib.hid (B_1.out.next g2)
  have Lp_2 := Lib.hid (Lp_1.out.next g2)
  clear g2 C_1 B_1 Lp_1
  have R_2 := Lib.hid (Sp.row O2.out)
  have hlR : n2 ≤ 1048576 := by have h1 := O2.out.1; rw [strV_len] at h1; have h2 := HLzp.out; omega
  clear O2
  have CX3 := Lib.hid (cNm_spec Ap np cp ps tx y w2 (by omega) HZp.out (by omega) (own_pl2 (Lp_2.out.here) HEp.out))
  go_wp2_with fail
  refine CX3.out.mono ?_
  rintro e w3 ⟨A3, n3, c3, e3, hO3, g3⟩
  clear CX3
  rw [← Hbad.out] at e3
  rw [← Hzp.out] at hO3
  subst e3
  have O3 := Lib.hid hO3
  clear hO3
  have C_3 := Lib.hid (C_2.out.next g3)
  have B_3 := Lib.hid (B_2.out.next g3)
  have Lp_3 := Lib.hid (Lp_2.out.next g3)
  have R_3 := Lib.hid (R_2.out.next g3)
  clear g3 C_2 B_2 Lp_2 R_2
  have Q_3 := Lib.hid (Sp.row O3.out)
  have hlQ : n3 ≤ 1048576 := by have h1 := O3.out.1; rw [strV_len] at h1; have h2 := HLzp.out; omega
  clear O3
  have CX4 := Lib.hid (cDrawPK A len cap w3 (by omega) (C_3.out.here))
  go_wp2_with fail
  refine CX4.out.mono ?_
  rintro e w4 ⟨Ak, nk, ck, pk, At, nt, ct, xs, a, yk, rfl, hnt, hot, hn4, hsm4, ⟨es4, he4, ho4⟩, g4⟩
  clear CX4
  have HEk := Lib.hid he4
  have HO4 := Lib.hid ho4
  have HT4 := Lib.hid hot
  have HZk := Lib.hid (sz_smq hsm4)
  clear he4 ho4 hsm4 hot
  have C_4 := Lib.hid (C_3.out.next g4)
  have B_4 := Lib.hid (B_3.out.next g4)
  have Lp_4 := Lib.hid (Lp_3.out.next g4)
  have R_4 := Lib.hid (R_3.out.next g4)
  have Q_4 := Lib.hid (Q_3.out.next g4)
  clear g4 C_3 B_3 Lp_3 R_3 Q_3
  have Lk_4 := Lib.hid (Sp.own HO4.out (Nat.le_refl _))
  have T_4 := Lib.hid (Sp.row HT4.out)
  clear HO4 HT4
  obtain ⟨one, hone⟩ : ∃ z9, z9 = pkC pk xs a yk := ⟨_, rfl⟩
  have Hone := Lib.hid hone
  clear hone
  obtain ⟨zk, hzk⟩ : ∃ z9, z9 = pkZ pk xs a yk := ⟨_, rfl⟩
  have Hzk := Lib.hid hzk
  clear hzk
  have HLzk : Hid (zk.length ≤ 1048576) := Lib.hid (by rw [Hzk.out]; exact pkZ_len pk xs a yk)
  have CX5 := Lib.hid (cKd_impl Ak At nk ck nt ct pk xs a yk w4 (by omega) (by omega) HZk.out (own_pl2 (Lk_4.out.here) HEk.out) (own_num (T_4.out.here)) (HSH.out _ (B_4.out.here)) (HER.out _ (B_4.out.here)).e.e)
  go_wp2_with fail
  refine CX5.out.mono ?_
  rintro e w5 ⟨A5, n5, c5, e5, hO5, g5⟩
  clear CX5
  rw [← Hone.out] at e5
  rw [← Hzk.out] at hO5
  subst e5
  have O5 := Lib.hid hO5
  clear hO5
  have C_5 := Lib.hid (C_4.out.next g5)
  have B_5 := Lib.hid (B_4.out.next g5)
  have Lp_5 := Lib.hid (Lp_4.out.next g5)
  have R_5 := Lib.hid (R_4.out.next g5)
  have Q_5 := Lib.hid (Q_4.out.next g5)
  have Lk_5 := Lib.hid (Lk_4.out.next g5)
  have T_5 := Lib.hid (T_4.out.next g5)
  clear g5 C_4 B_4 Lp_4 R_4 Q_4 Lk_4 T_4
  have K_5 := Lib.hid (Sp.row O5.out)
  have hlK : n5 ≤ 1048576 := by have h1 := O5.out.1; rw [strV_len] at h1; have h2 := HLzk.out; omega
  clear O5
  have CX6 := Lib.hid (cKd_spec Ak At nk ck nt ct pk xs a yk w5 (by omega) (by omega) HZk.out (own_pl2 (Lk_5.out.here) HEk.out) (own_num (T_5.out.here)))
  go_wp2_with fail
  refine CX6.out.mono ?_
  rintro e w6 ⟨A6, n6, c6, e6, hO6, g6⟩
  clear CX6
  rw [← Hone.out] at e6
  rw [← Hzk.out] at hO6
  subst e6
  have O6 := Lib.hid hO6
  clear hO6
  clear T_5
  have C_6 := Lib.hid (C_5.out.next g6)
  have B_6 := Lib.hid (B_5.out.next g6)
  have Lp_6 := Lib.hid (Lp_5.out.next g6)
  have R_6 := Lib.hid (R_5.out.next g6)
  have Q_6 := Lib.hid (Q_5.out.next g6)
  have Lk_6 := Lib.hid (Lk_5.out.next g6)
  have K_6 := Lib.hid (K_5.out.next g6)
  clear g6 C_5 B_5 Lp_5 R_5 Q_5 Lk_5 K_5
  have J_6 := Lib.hid (Sp.row O6.out)
  have hlJ : n6 ≤ 1048576 := by have h1 := O6.out.1; rw [strV_len] at h1; have h2 := HLzk.out; omega
  clear O6
  have CX7 := Lib.hid (cDrawNO A len cap w6 (by omega) (C_6.out.here))
  go_wp2_with fail
  refine CX7.out.mono ?_
  rintro e w7 ⟨Ab, nb, cb, pb, cd, Al, nl, cl, ls, yb, rfl, hcd, hnl, hls, hyb, hol, hn7, hsm7, ⟨es7, he7, ho7⟩, g7⟩
  clear CX7
  have HEb := Lib.hid he7
  have HO7 := Lib.hid ho7
  have HT7 := Lib.hid hol
  have HZb := Lib.hid (sz_smq hsm7)
  have HLS : Hid (∀ x ∈ ls, x.size ≤ maxLen) := Lib.hid (fun x hx => by have := hls x hx; unfold maxLen; omega)
  clear he7 ho7 hsm7 hol hls
  have C_7 := Lib.hid (C_6.out.next g7)
  have B_7 := Lib.hid (B_6.out.next g7)
  have Lp_7 := Lib.hid (Lp_6.out.next g7)
  have R_7 := Lib.hid (R_6.out.next g7)
  have Q_7 := Lib.hid (Q_6.out.next g7)
  have Lk_7 := Lib.hid (Lk_6.out.next g7)
  have K_7 := Lib.hid (K_6.out.next g7)
  have J_7 := Lib.hid (J_6.out.next g7)
  clear g7 C_6 B_6 Lp_6 R_6 Q_6 Lk_6 K_6 J_6
  have Lb_7 := Lib.hid (Sp.own HO7.out (Nat.le_refl _))
  have T_7 := Lib.hid (Sp.row HT7.out)
  clear HO7 HT7
  obtain ⟨three, hthree⟩ : ∃ z9, z9 = naC pb cd ls yb := ⟨_, rfl⟩
  have Hthree := Lib.hid hthree
  clear hthree
  obtain ⟨sn, hsn⟩ : ∃ z9, z9 = naT pb cd ls yb := ⟨_, rfl⟩
  have Hsn := Lib.hid hsn
  clear hsn
  have hcm : cd.size ≤ maxLen := by unfold maxLen; omega
  have hsn : sn.size ≤ 1048576 := by rw [Hsn.out]; exact naT_len pb cd ls yb HZb.out (by omega)
  have CY7 : Hid (Calls Tryz.prog 36 #[.slice Ab nb cb, .string cd, .slice Al nl cl, .int .i64 yb] w7 fun e w' => e = .returned (.tuple #[.string sn, .int .i64 three]) ∧ Below w7.heap.size w7 w') := Lib.hid (by have h9 := cNa_impl Ab Al nb cb nl cl pb cd ls yb w7 (by omega) (by omega) HZb.out hcm HLS.out (own_pl2 (Lb_7.out.here) HEb.out) (own_text (T_7.out.here)) (HSH.out _ (B_7.out.here)) (HER.out _ (B_7.out.here)); rw [← Hthree.out, ← Hsn.out] at h9; exact h9)
  have CX8 := Lib.hid (CY7.out)
  go_wp2_with fail
  refine CX8.out.mono ?_
  rintro e w8 ⟨rfl, g8⟩
  clear CX8
  have C_8 := Lib.hid (C_7.out.next g8)
  have B_8 := Lib.hid (B_7.out.next g8)
  have Lp_8 := Lib.hid (Lp_7.out.next g8)
  have R_8 := Lib.hid (R_7.out.next g8)
  have Q_8 := Lib.hid (Q_7.out.next g8)
  have Lk_8 := Lib.hid (Lk_7.out.next g8)
  have K_8 := Lib.hid (K_7.out.next g8)
  have J_8 := Lib.hid (J_7.out.next g8)
  have Lb_8 := Lib.hid (Lb_7.out.next g8)
  have T_8 := Lib.hid (T_7.out.next g8)
  clear g8 C_7 B_7 Lp_7 R_7 Q_7 Lk_7 K_7 J_7 Lb_7 T_7
  clear CY7
  have CY8 : Hid (Calls Tryz.prog 37 #[.slice Ab nb cb, .string cd, .slice Al nl cl, .int .i64 yb] w8 fun e w' => e = .returned (.tuple #[.string sn, .int .i64 three]) ∧ Below w8.heap.size w8 w') := Lib.hid (by have h9 := cNa_spec Ab Al nb cb nl cl pb cd ls yb w8 (by omega) (by omega) HZb.out hcm HLS.out (own_pl2 (Lb_8.out.here) HEb.out) (own_text (T_8.out.here)); rw [← Hthree.out, ← Hsn.out] at h9; exact h9)
  have CX9 := Lib.hid (CY8.out)
  go_wp2_with fail
  refine CX9.out.mono ?_
  rintro e w9 ⟨rfl, g9⟩
  clear CX9
  clear T_8
  have C_9 := Lib.hid (C_8.out.next g9)
  have B_9 := Lib.hid (B_8.out.next g9)
  have Lp_9 := Lib.hid (Lp_8.out.next g9)
  have R_9 := Lib.hid (R_8.out.next g9)
  have Q_9 := Lib.hid (Q_8.out.next g9)
  have Lk_9 := Lib.hid (Lk_8.out.next g9)
  have K_9 := Lib.hid (K_8.out.next g9)
  have J_9 := Lib.hid (J_8.out.next g9)
  have Lb_9 := Lib.hid (Lb_8.out.next g9)
  clear g9 C_8 B_8 Lp_8 R_8 Q_8 Lk_8 K_8 J_8 Lb_8
  clear CY8
  have CX10 := Lib.hid (cDrawPF A len cap w9 (by omega) (C_9.out.here))
  go_wp2_with fail
  refine CX10.out.mono ?_
  rintro e w10 ⟨Af, nf, cf, pf, tf, rfl, htf, hn10, hsm10, ⟨es10, he10, ho10⟩, g10⟩
  clear CX10
  have HEf := Lib.hid he10
  have HO10 := Lib.hid ho10
  have HZf := Lib.hid (sz_smq hsm10)
  clear he10 ho10 hsm10
  have C_10 := Lib.hid (C_9.out.next g10)
  have B_10 := Lib.hid (B_9.out.next g10)
  have Lp_10 := Lib.hid (Lp_9.out.next g10)
  have R_10 := Lib.hid (R_9.out.next g10)
  have Q_10 := Lib.hid (Q_9.out.next g10)
  have Lk_10 := Lib.hid (Lk_9.out.next g10)
  have K_10 := Lib.hid (K_9.out.next g10)
  have J_10 := Lib.hid (J_9.out.next g10)
  have Lb_10 := Lib.hid (Lb_9.out.next g10)
  clear g10 C_9 B_9 Lp_9 R_9 Q_9 Lk_9 K_9 J_9 Lb_9
  have Lf_10 := Lib.hid (Sp.own HO10.out (Nat.le_refl _))
  clear HO10
  obtain ⟨five, hfive⟩ : ∃ z9, z9 = pcC pf tf 0 := ⟨_, rfl⟩
  have Hfive := Lib.hid hfive
  clear hfive
  obtain ⟨fi, hfi⟩ : ∃ z9, z9 = plZ pf tf 0 := ⟨_, rfl⟩
  have Hfi := Lib.hid hfi
  clear hfi
  have htm : tf.size ≤ maxLen := by unfold maxLen; omega
  have CY10 : Hid (Calls Tryz.prog 29 #[.slice Af nf cf, .string tf] w10 fun e w' => e = .returned (.tuple #[.int .i64 fi, .int .i64 five]) ∧ Below w10.heap.size w10 w') := Lib.hid (by have h9 := cFind_impl Af nf cf pf tf w10 (by omega) HZf.out htm (own_pl2 (Lf_10.out.here) HEf.out) (HSH.out _ (B_10.out.here)) (HER.out _ (B_10.out.here)).e.e; rw [← Hfive.out, ← Hfi.out] at h9; exact h9)
  have CX11 := Lib.hid (CY10.out)
  go_wp2_with fail
  refine CX11.out.mono ?_
  rintro e w11 ⟨rfl, g11⟩
  clear CX11
  have C_11 := Lib.hid (C_10.out.next g11)
  have B_11 := Lib.hid (B_10.out.next g11)
  have Lp_11 := Lib.hid (Lp_10.out.next g11)
  have R_11 := Lib.hid (R_10.out.next g11)
  have Q_11 := Lib.hid (Q_10.out.next g11)
  have Lk_11 := Lib.hid (Lk_10.out.next g11)
  have K_11 := Lib.hid (K_10.out.next g11)
  have J_11 := Lib.hid (J_10.out.next g11)
  have Lb_11 := Lib.hid (Lb_10.out.next g11)
  have Lf_11 := Lib.hid (Lf_10.out.next g11)
  clear g11 C_10 B_10 Lp_10 R_10 Q_10 Lk_10 K_10 J_10 Lb_10 Lf_10
  clear CY10
  have CY11 : Hid (Calls Tryz.prog 39 #[.slice Af nf cf, .string tf] w11 fun e w' => e = .returned (.tuple #[.int .i64 fi, .int .i64 five]) ∧ Below w11.heap.size w11 w') := Lib.hid (by have h9 := cFind_spec Af nf cf pf tf w11 (by omega) HZf.out htm (own_pl2 (Lf_11.out.here) HEf.out); rw [← Hfive.out, ← Hfi.out] at h9; exact h9)
  have CX12 := Lib.hid (CY11.out)
  go_wp2_with fail
  refine CX12.out.mono ?_
  rintro e w12 ⟨rfl, g12⟩
  clear CX12
  clear Lf_11
  clear C_11
  have B_12 := Lib.hid (B_11.out.next g12)
  have Lp_12 := Lib.hid (Lp_11.out.next g12)
  have R_12 := Lib.hid (R_11.out.next g12)
  have Q_12 := Lib.hid (Q_11.out.next g12)
  have Lk_12 := Lib.hid (Lk_11.out.next g12)
  have K_12 := Lib.hid (K_11.out.next g12)
  have J_12 := Lib.hid (J_11.out.next g12)
  have Lb_12 := Lib.hid (Lb_11.out.next g12)
  clear g12 B_11 Lp_11 R_11 Q_11 Lk_11 K_11 J_11 Lb_11
  clear CY11
  have hd1 : (bad != bad) = false := by simp
  have hd2 : (one != one) = false := by simp
  have hd3 : (three != three) = false := by simp
  have hd4 : (sn.toList != sn.toList) = false := by simp
  have hd5 : (five != five) = false := by simp
  have hd6 : (fi != fi) = false := by simp
  by_cases ht0 : three = 0
  rotate_left
  · have ht1 : (three == 0) = false := by rw [beq_eq_false_iff_ne]; exact ht0
    have CX13 := Lib.hid (likeT A2 A3 n2 n3 c2 c3 zp w12 hlR (own_text (R_12.out.here)) (own_text (Q_12.out.here)))
    go_wp2_with fail
    refine CX13.out.mono ?_
    rintro e w13 ⟨rfl, g13⟩
    clear CX13
    clear Q_12
    have B_13 := Lib.hid (B_12.out.next g13)
    have Lp_13 := Lib.hid (Lp_12.out.next g13)
    have R_13 := Lib.hid (R_12.out.next g13)
    have Lk_13 := Lib.hid (Lk_12.out.next g13)
    have K_13 := Lib.hid (K_12.out.next g13)
    have J_13 := Lib.hid (J_12.out.next g13)
    have Lb_13 := Lib.hid (Lb_12.out.next g13)
    clear g13 B_12 Lp_12 R_12 Lk_12 K_12 J_12 Lb_12
    have CX14 := Lib.hid (likeT A5 A6 n5 n6 c5 c6 zk w13 hlK (own_text (K_13.out.here)) (own_text (J_13.out.here)))
    go_wp2_with fail
    refine CX14.out.mono ?_
    rintro e w14 ⟨rfl, g14⟩
    clear CX14
    clear J_13
    have B_14 := Lib.hid (B_13.out.next g14)
    have Lp_14 := Lib.hid (Lp_13.out.next g14)
    have R_14 := Lib.hid (R_13.out.next g14)
    have Lk_14 := Lib.hid (Lk_13.out.next g14)
    have K_14 := Lib.hid (K_13.out.next g14)
    have Lb_14 := Lib.hid (Lb_13.out.next g14)
    clear g14 B_13 Lp_13 R_13 Lk_13 K_13 Lb_13
    by_cases ho0 : one = 0
    rotate_left
    · have ho1 : (one == 0) = false := by rw [beq_eq_false_iff_ne]; exact ho0
      by_cases hb0 : bad = 0
      rotate_left
      · have hb1 : (bad != 0) = true := by simp [hb0]
        go_wp2_with fail
        go_ret
        exact ⟨rfl, (B_14.out.here)⟩
      · subst hb0
        have HPI := Lib.hid (pn_in (ps := ps) (t := tx) (y := y) Hbad.out.symm)
        obtain ⟨za, hza⟩ : ∃ z9, z9 = piZ ps y := ⟨_, rfl⟩
        have Hza := Lib.hid hza
        clear hza
        have HLza : Hid (za.length ≤ 1048576) := Lib.hid (by rw [Hza.out]; exact piZ_len ps y)
        have HMZ : Hid (∀ z ∈ zp, z ∈ za) := Lib.hid (by rw [Hzp.out, Hza.out]; exact HPI.out.2)
        obtain ⟨nine, hnine⟩ : ∃ z9 : Int, z9 = 0 := ⟨_, rfl⟩
        have Hnine : Hid (nine = pyC ps y) := Lib.hid (by rw [hnine]; exact HPI.out.1.symm)
        have CX15 := Lib.hid (cPlIn_impl Ap np cp ps y w14 (by omega) HZp.out (own_pl2 (Lp_14.out.here) HEp.out) (HSH.out _ (B_14.out.here)) (HER.out _ (B_14.out.here)).e.e)
        go_wp2_with fail
        refine CX15.out.mono ?_
        rintro e w15 ⟨A15, n15, c15, e15, hO15, g15⟩
        clear CX15
        rw [← Hnine.out] at e15
        rw [← Hza.out] at hO15
        subst e15
        have O15 := Lib.hid hO15
        clear hO15
        have B_15 := Lib.hid (B_14.out.next g15)
        have Lp_15 := Lib.hid (Lp_14.out.next g15)
        have R_15 := Lib.hid (R_14.out.next g15)
        have Lk_15 := Lib.hid (Lk_14.out.next g15)
        have K_15 := Lib.hid (K_14.out.next g15)
        have Lb_15 := Lib.hid (Lb_14.out.next g15)
        clear g15 B_14 Lp_14 R_14 Lk_14 K_14 Lb_14
        have G_15 := Lib.hid (Sp.row O15.out)
        have hlG : n15 ≤ 1048576 := by have h1 := O15.out.1; rw [strV_len] at h1; have h2 := HLza.out; omega
        clear O15
        subst hnine
        have HRT := Lib.hid (own_text (R_15.out.here))
        have HAT := Lib.hid (own_text (G_15.out.here))
        have hbl := Lib.hid (B_15.out.here)
        go_wp2_with fail
        go_loopw [39] (fun i wr => ∃ k : Nat, k ≤ n2 ∧ i = .int .i64 k ∧ w15 = wr) (fun i _ => n2 - (intOf i).toNat)
        case atStart => exact ⟨0, Nat.zero_le _, rfl, rfl⟩
        case round =>
          obtain ⟨k, hk, rfl, rfl⟩ := hrel
          by_cases hlt : k < n2
          · obtain ⟨z, hz⟩ : ∃ z, zp[k]? = some z := ⟨zp[k]'(by have := HRT.out.1; omega), List.getElem?_eq_getElem _⟩
            obtain ⟨gb, go, hAE, _, c0⟩ := HRT.out.row2 hz
            have CT := Lib.hid (tHasT z A15 n15 c15 w15.heap.size za w15 hlG (HMZ.out z (List.mem_of_getElem? hz)) HAT.out)
            have u1 : (0 : Int) ≤ (k : Int) := Int.natCast_nonneg _
            have u2 : (k : Int) < (n2 : Int) := by omega
            clear hz
            subst hAE
            go_wp2_with fail
            refine CT.out.mono ?_
            rintro e w9 ⟨rfl, rfl⟩
            go_wp2_with fail
            go_roundw
            case rel => exact ⟨k + 1, by omega, by go_num, by trivial⟩
            case measure => simp [intOf]; omega
          · clear HRT HAT
            go_wp2_with fail
            go_ret
            exact ⟨rfl, hbl.out⟩
    · subst ho0
      have HPK := Lib.hid (pk_in (ps := pk) (xs := xs) (a := a) (y := yk) Hone.out.symm)
      obtain ⟨zb, hzb⟩ : ∃ z9, z9 = piZ pk yk := ⟨_, rfl⟩
      have Hzb := Lib.hid hzb
      clear hzb
      have HLzb : Hid (zb.length ≤ 1048576) := Lib.hid (by rw [Hzb.out]; exact piZ_len pk yk)
      have HMK : Hid (∀ z ∈ zk, z ∈ zb) := Lib.hid (by rw [Hzk.out, Hzb.out]; exact HPK.out.2)
      obtain ⟨eight, height⟩ : ∃ z9 : Int, z9 = 0 := ⟨_, rfl⟩
      have Height : Hid (eight = pyC pk yk) := Lib.hid (by rw [height]; exact HPK.out.1.symm)
      have CX15 := Lib.hid (cPlIn_impl Ak nk ck pk yk w14 (by omega) HZk.out (own_pl2 (Lk_14.out.here) HEk.out) (HSH.out _ (B_14.out.here)) (HER.out _ (B_14.out.here)).e.e)
      go_wp2_with fail
      refine CX15.out.mono ?_
      rintro e w15 ⟨A15, n15, c15, e15, hO15, g15⟩
      clear CX15
      rw [← Height.out] at e15
      rw [← Hzb.out] at hO15
      subst e15
      have O15 := Lib.hid hO15
      clear hO15
      have B_15 := Lib.hid (B_14.out.next g15)
      have Lp_15 := Lib.hid (Lp_14.out.next g15)
      have R_15 := Lib.hid (R_14.out.next g15)
      have Lk_15 := Lib.hid (Lk_14.out.next g15)
      have K_15 := Lib.hid (K_14.out.next g15)
      have Lb_15 := Lib.hid (Lb_14.out.next g15)
      clear g15 B_14 Lp_14 R_14 Lk_14 K_14 Lb_14
      have G_15 := Lib.hid (Sp.row O15.out)
      have hlG : n15 ≤ 1048576 := by have h1 := O15.out.1; rw [strV_len] at h1; have h2 := HLzb.out; omega
      clear O15
      subst height
      have HRT := Lib.hid (own_text (K_15.out.here))
      have HAT := Lib.hid (own_text (G_15.out.here))
      have hbl := Lib.hid (B_15.out.here)
      go_wp2_with fail
      go_loopw [36] (fun i wr => ∃ k : Nat, k ≤ n5 ∧ i = .int .i64 k ∧ w15 = wr) (fun i _ => n5 - (intOf i).toNat)
      case atStart => exact ⟨0, Nat.zero_le _, rfl, rfl⟩
      case round =>
        obtain ⟨k, hk, rfl, rfl⟩ := hrel
        by_cases hlt : k < n5
        · obtain ⟨z, hz⟩ : ∃ z, zk[k]? = some z := ⟨zk[k]'(by have := HRT.out.1; omega), List.getElem?_eq_getElem _⟩
          obtain ⟨gb, go, hAE, _, c0⟩ := HRT.out.row2 hz
          have CT := Lib.hid (tHasT z A15 n15 c15 w15.heap.size zb w15 hlG (HMK.out z (List.mem_of_getElem? hz)) HAT.out)
          have u1 : (0 : Int) ≤ (k : Int) := Int.natCast_nonneg _
          have u2 : (k : Int) < (n5 : Int) := by omega
          clear hz
          subst hAE
          go_wp2_with fail
          refine CT.out.mono ?_
          rintro e w9 ⟨rfl, rfl⟩
          go_wp2_with fail
          go_roundw
          case rel => exact ⟨k + 1, by omega, by go_num, by trivial⟩
          case measure => simp [intOf]; omega
        · clear HRT HAT
          by_cases hb0 : bad = 0
          rotate_left
          · have hb1 : (bad != 0) = true := by simp [hb0]
            go_wp2_with fail
            go_ret
            exact ⟨rfl, (B_15.out.here)⟩
          · subst hb0
            have HPI := Lib.hid (pn_in (ps := ps) (t := tx) (y := y) Hbad.out.symm)
            obtain ⟨za, hza⟩ : ∃ z9, z9 = piZ ps y := ⟨_, rfl⟩
            have Hza := Lib.hid hza
            clear hza
            have HLza : Hid (za.length ≤ 1048576) := Lib.hid (by rw [Hza.out]; exact piZ_len ps y)
            have HMZ : Hid (∀ z ∈ zp, z ∈ za) := Lib.hid (by rw [Hzp.out, Hza.out]; exact HPI.out.2)
            obtain ⟨nine, hnine⟩ : ∃ z9 : Int, z9 = 0 := ⟨_, rfl⟩
            have Hnine : Hid (nine = pyC ps y) := Lib.hid (by rw [hnine]; exact HPI.out.1.symm)
            have CX16 := Lib.hid (cPlIn_impl Ap np cp ps y w15 (by omega) HZp.out (own_pl2 (Lp_15.out.here) HEp.out) (HSH.out _ (B_15.out.here)) (HER.out _ (B_15.out.here)).e.e)
            go_wp2_with fail
            refine CX16.out.mono ?_
            rintro e w16 ⟨A16, n16, c16, e16, hO16, g16⟩
            clear CX16
            rw [← Hnine.out] at e16
            rw [← Hza.out] at hO16
            subst e16
            have O16 := Lib.hid hO16
            clear hO16
            have B_16 := Lib.hid (B_15.out.next g16)
            have Lp_16 := Lib.hid (Lp_15.out.next g16)
            have R_16 := Lib.hid (R_15.out.next g16)
            have Lk_16 := Lib.hid (Lk_15.out.next g16)
            have K_16 := Lib.hid (K_15.out.next g16)
            have Lb_16 := Lib.hid (Lb_15.out.next g16)
            clear g16 B_15 Lp_15 R_15 Lk_15 K_15 Lb_15
            have G_16 := Lib.hid (Sp.row O16.out)
            have hlG : n16 ≤ 1048576 := by have h1 := O16.out.1; rw [strV_len] at h1; have h2 := HLza.out; omega
            clear O16
            subst hnine
            have HRT := Lib.hid (own_text (R_16.out.here))
            have HAT := Lib.hid (own_text (G_16.out.here))
            have hbl := Lib.hid (B_16.out.here)
            go_wp2_with fail
            go_loopw [39] (fun i wr => ∃ k : Nat, k ≤ n2 ∧ i = .int .i64 k ∧ w16 = wr) (fun i _ => n2 - (intOf i).toNat)
            case atStart => exact ⟨0, Nat.zero_le _, rfl, rfl⟩
            case round =>
              obtain ⟨k, hk, rfl, rfl⟩ := hrel
              by_cases hlt : k < n2
              · obtain ⟨z, hz⟩ : ∃ z, zp[k]? = some z := ⟨zp[k]'(by have := HRT.out.1; omega), List.getElem?_eq_getElem _⟩
                obtain ⟨gb, go, hAE, _, c0⟩ := HRT.out.row2 hz
                have CT := Lib.hid (tHasT z A16 n16 c16 w16.heap.size za w16 hlG (HMZ.out z (List.mem_of_getElem? hz)) HAT.out)
                have u1 : (0 : Int) ≤ (k : Int) := Int.natCast_nonneg _
                have u2 : (k : Int) < (n2 : Int) := by omega
                clear hz
                subst hAE
                go_wp2_with fail
                refine CT.out.mono ?_
                rintro e w9 ⟨rfl, rfl⟩
                go_wp2_with fail
                go_roundw
                case rel => exact ⟨k + 1, by omega, by go_num, by trivial⟩
                case measure => simp [intOf]; omega
              · clear HRT HAT
                go_wp2_with fail
                go_ret
                exact ⟨rfl, hbl.out⟩
  subst ht0
  by_cases hsc : sn = cd
  · have ht1 : (sn.toList != cd.toList) = false := by rw [hsc]; simp
    have ht2 : (sn.toList == cd.toList) = true := by rw [hsc]; simp
    clear hsc
    have CX13 := Lib.hid (likeT A2 A3 n2 n3 c2 c3 zp w12 hlR (own_text (R_12.out.here)) (own_text (Q_12.out.here)))
    go_wp2_with fail
    refine CX13.out.mono ?_
    rintro e w13 ⟨rfl, g13⟩
    clear CX13
    clear Q_12
    have B_13 := Lib.hid (B_12.out.next g13)
    have Lp_13 := Lib.hid (Lp_12.out.next g13)
    have R_13 := Lib.hid (R_12.out.next g13)
    have Lk_13 := Lib.hid (Lk_12.out.next g13)
    have K_13 := Lib.hid (K_12.out.next g13)
    have J_13 := Lib.hid (J_12.out.next g13)
    have Lb_13 := Lib.hid (Lb_12.out.next g13)
    clear g13 B_12 Lp_12 R_12 Lk_12 K_12 J_12 Lb_12
    have CX14 := Lib.hid (likeT A5 A6 n5 n6 c5 c6 zk w13 hlK (own_text (K_13.out.here)) (own_text (J_13.out.here)))
    go_wp2_with fail
    refine CX14.out.mono ?_
    rintro e w14 ⟨rfl, g14⟩
    clear CX14
    clear J_13
    have B_14 := Lib.hid (B_13.out.next g14)
    have Lp_14 := Lib.hid (Lp_13.out.next g14)
    have R_14 := Lib.hid (R_13.out.next g14)
    have Lk_14 := Lib.hid (Lk_13.out.next g14)
    have K_14 := Lib.hid (K_13.out.next g14)
    have Lb_14 := Lib.hid (Lb_13.out.next g14)
    clear g14 B_13 Lp_13 R_13 Lk_13 K_13 Lb_13
    by_cases ho0 : one = 0
    rotate_left
    · have ho1 : (one == 0) = false := by rw [beq_eq_false_iff_ne]; exact ho0
      by_cases hb0 : bad = 0
      rotate_left
      · have hb1 : (bad != 0) = true := by simp [hb0]
        go_wp2_with fail
        go_ret
        exact ⟨rfl, (B_14.out.here)⟩
      · subst hb0
        have HPI := Lib.hid (pn_in (ps := ps) (t := tx) (y := y) Hbad.out.symm)
        obtain ⟨za, hza⟩ : ∃ z9, z9 = piZ ps y := ⟨_, rfl⟩
        have Hza := Lib.hid hza
        clear hza
        have HLza : Hid (za.length ≤ 1048576) := Lib.hid (by rw [Hza.out]; exact piZ_len ps y)
        have HMZ : Hid (∀ z ∈ zp, z ∈ za) := Lib.hid (by rw [Hzp.out, Hza.out]; exact HPI.out.2)
        obtain ⟨nine, hnine⟩ : ∃ z9 : Int, z9 = 0 := ⟨_, rfl⟩
        have Hnine : Hid (nine = pyC ps y) := Lib.hid (by rw [hnine]; exact HPI.out.1.symm)
        have CX15 := Lib.hid (cPlIn_impl Ap np cp ps y w14 (by omega) HZp.out (own_pl2 (Lp_14.out.here) HEp.out) (HSH.out _ (B_14.out.here)) (HER.out _ (B_14.out.here)).e.e)
        go_wp2_with fail
        refine CX15.out.mono ?_
        rintro e w15 ⟨A15, n15, c15, e15, hO15, g15⟩
        clear CX15
        rw [← Hnine.out] at e15
        rw [← Hza.out] at hO15
        subst e15
        have O15 := Lib.hid hO15
        clear hO15
        have B_15 := Lib.hid (B_14.out.next g15)
        have Lp_15 := Lib.hid (Lp_14.out.next g15)
        have R_15 := Lib.hid (R_14.out.next g15)
        have Lk_15 := Lib.hid (Lk_14.out.next g15)
        have K_15 := Lib.hid (K_14.out.next g15)
        have Lb_15 := Lib.hid (Lb_14.out.next g15)
        clear g15 B_14 Lp_14 R_14 Lk_14 K_14 Lb_14
        have G_15 := Lib.hid (Sp.row O15.out)
        have hlG : n15 ≤ 1048576 := by have h1 := O15.out.1; rw [strV_len] at h1; have h2 := HLza.out; omega
        clear O15
        subst hnine
        have HRT := Lib.hid (own_text (R_15.out.here))
        have HAT := Lib.hid (own_text (G_15.out.here))
        have hbl := Lib.hid (B_15.out.here)
        go_wp2_with fail
        go_loopw [39] (fun i wr => ∃ k : Nat, k ≤ n2 ∧ i = .int .i64 k ∧ w15 = wr) (fun i _ => n2 - (intOf i).toNat)
        case atStart => exact ⟨0, Nat.zero_le _, rfl, rfl⟩
        case round =>
          obtain ⟨k, hk, rfl, rfl⟩ := hrel
          by_cases hlt : k < n2
          · obtain ⟨z, hz⟩ : ∃ z, zp[k]? = some z := ⟨zp[k]'(by have := HRT.out.1; omega), List.getElem?_eq_getElem _⟩
            obtain ⟨gb, go, hAE, _, c0⟩ := HRT.out.row2 hz
            have CT := Lib.hid (tHasT z A15 n15 c15 w15.heap.size za w15 hlG (HMZ.out z (List.mem_of_getElem? hz)) HAT.out)
            have u1 : (0 : Int) ≤ (k : Int) := Int.natCast_nonneg _
            have u2 : (k : Int) < (n2 : Int) := by omega
            clear hz
            subst hAE
            go_wp2_with fail
            refine CT.out.mono ?_
            rintro e w9 ⟨rfl, rfl⟩
            go_wp2_with fail
            go_roundw
            case rel => exact ⟨k + 1, by omega, by go_num, by trivial⟩
            case measure => simp [intOf]; omega
          · clear HRT HAT
            go_wp2_with fail
            go_ret
            exact ⟨rfl, hbl.out⟩
    · subst ho0
      have HPK := Lib.hid (pk_in (ps := pk) (xs := xs) (a := a) (y := yk) Hone.out.symm)
      obtain ⟨zb, hzb⟩ : ∃ z9, z9 = piZ pk yk := ⟨_, rfl⟩
      have Hzb := Lib.hid hzb
      clear hzb
      have HLzb : Hid (zb.length ≤ 1048576) := Lib.hid (by rw [Hzb.out]; exact piZ_len pk yk)
      have HMK : Hid (∀ z ∈ zk, z ∈ zb) := Lib.hid (by rw [Hzk.out, Hzb.out]; exact HPK.out.2)
      obtain ⟨eight, height⟩ : ∃ z9 : Int, z9 = 0 := ⟨_, rfl⟩
      have Height : Hid (eight = pyC pk yk) := Lib.hid (by rw [height]; exact HPK.out.1.symm)
      have CX15 := Lib.hid (cPlIn_impl Ak nk ck pk yk w14 (by omega) HZk.out (own_pl2 (Lk_14.out.here) HEk.out) (HSH.out _ (B_14.out.here)) (HER.out _ (B_14.out.here)).e.e)
      go_wp2_with fail
      refine CX15.out.mono ?_
      rintro e w15 ⟨A15, n15, c15, e15, hO15, g15⟩
      clear CX15
      rw [← Height.out] at e15
      rw [← Hzb.out] at hO15
      subst e15
      have O15 := Lib.hid hO15
      clear hO15
      have B_15 := Lib.hid (B_14.out.next g15)
      have Lp_15 := Lib.hid (Lp_14.out.next g15)
      have R_15 := Lib.hid (R_14.out.next g15)
      have Lk_15 := Lib.hid (Lk_14.out.next g15)
      have K_15 := Lib.hid (K_14.out.next g15)
      have Lb_15 := Lib.hid (Lb_14.out.next g15)
      clear g15 B_14 Lp_14 R_14 Lk_14 K_14 Lb_14
      have G_15 := Lib.hid (Sp.row O15.out)
      have hlG : n15 ≤ 1048576 := by have h1 := O15.out.1; rw [strV_len] at h1; have h2 := HLzb.out; omega
      clear O15
      subst height
      have HRT := Lib.hid (own_text (K_15.out.here))
      have HAT := Lib.hid (own_text (G_15.out.here))
      have hbl := Lib.hid (B_15.out.here)
      go_wp2_with fail
      go_loopw [36] (fun i wr => ∃ k : Nat, k ≤ n5 ∧ i = .int .i64 k ∧ w15 = wr) (fun i _ => n5 - (intOf i).toNat)
      case atStart => exact ⟨0, Nat.zero_le _, rfl, rfl⟩
      case round =>
        obtain ⟨k, hk, rfl, rfl⟩ := hrel
        by_cases hlt : k < n5
        · obtain ⟨z, hz⟩ : ∃ z, zk[k]? = some z := ⟨zk[k]'(by have := HRT.out.1; omega), List.getElem?_eq_getElem _⟩
          obtain ⟨gb, go, hAE, _, c0⟩ := HRT.out.row2 hz
          have CT := Lib.hid (tHasT z A15 n15 c15 w15.heap.size zb w15 hlG (HMK.out z (List.mem_of_getElem? hz)) HAT.out)
          have u1 : (0 : Int) ≤ (k : Int) := Int.natCast_nonneg _
          have u2 : (k : Int) < (n5 : Int) := by omega
          clear hz
          subst hAE
          go_wp2_with fail
          refine CT.out.mono ?_
          rintro e w9 ⟨rfl, rfl⟩
          go_wp2_with fail
          go_roundw
          case rel => exact ⟨k + 1, by omega, by go_num, by trivial⟩
          case measure => simp [intOf]; omega
        · clear HRT HAT
          by_cases hb0 : bad = 0
          rotate_left
          · have hb1 : (bad != 0) = true := by simp [hb0]
            go_wp2_with fail
            go_ret
            exact ⟨rfl, (B_15.out.here)⟩
          · subst hb0
            have HPI := Lib.hid (pn_in (ps := ps) (t := tx) (y := y) Hbad.out.symm)
            obtain ⟨za, hza⟩ : ∃ z9, z9 = piZ ps y := ⟨_, rfl⟩
            have Hza := Lib.hid hza
            clear hza
            have HLza : Hid (za.length ≤ 1048576) := Lib.hid (by rw [Hza.out]; exact piZ_len ps y)
            have HMZ : Hid (∀ z ∈ zp, z ∈ za) := Lib.hid (by rw [Hzp.out, Hza.out]; exact HPI.out.2)
            obtain ⟨nine, hnine⟩ : ∃ z9 : Int, z9 = 0 := ⟨_, rfl⟩
            have Hnine : Hid (nine = pyC ps y) := Lib.hid (by rw [hnine]; exact HPI.out.1.symm)
            have CX16 := Lib.hid (cPlIn_impl Ap np cp ps y w15 (by omega) HZp.out (own_pl2 (Lp_15.out.here) HEp.out) (HSH.out _ (B_15.out.here)) (HER.out _ (B_15.out.here)).e.e)
            go_wp2_with fail
            refine CX16.out.mono ?_
            rintro e w16 ⟨A16, n16, c16, e16, hO16, g16⟩
            clear CX16
            rw [← Hnine.out] at e16
            rw [← Hza.out] at hO16
            subst e16
            have O16 := Lib.hid hO16
            clear hO16
            have B_16 := Lib.hid (B_15.out.next g16)
            have Lp_16 := Lib.hid (Lp_15.out.next g16)
            have R_16 := Lib.hid (R_15.out.next g16)
            have Lk_16 := Lib.hid (Lk_15.out.next g16)
            have K_16 := Lib.hid (K_15.out.next g16)
            have Lb_16 := Lib.hid (Lb_15.out.next g16)
            clear g16 B_15 Lp_15 R_15 Lk_15 K_15 Lb_15
            have G_16 := Lib.hid (Sp.row O16.out)
            have hlG : n16 ≤ 1048576 := by have h1 := O16.out.1; rw [strV_len] at h1; have h2 := HLza.out; omega
            clear O16
            subst hnine
            have HRT := Lib.hid (own_text (R_16.out.here))
            have HAT := Lib.hid (own_text (G_16.out.here))
            have hbl := Lib.hid (B_16.out.here)
            go_wp2_with fail
            go_loopw [39] (fun i wr => ∃ k : Nat, k ≤ n2 ∧ i = .int .i64 k ∧ w16 = wr) (fun i _ => n2 - (intOf i).toNat)
            case atStart => exact ⟨0, Nat.zero_le _, rfl, rfl⟩
            case round =>
              obtain ⟨k, hk, rfl, rfl⟩ := hrel
              by_cases hlt : k < n2
              · obtain ⟨z, hz⟩ : ∃ z, zp[k]? = some z := ⟨zp[k]'(by have := HRT.out.1; omega), List.getElem?_eq_getElem _⟩
                obtain ⟨gb, go, hAE, _, c0⟩ := HRT.out.row2 hz
                have CT := Lib.hid (tHasT z A16 n16 c16 w16.heap.size za w16 hlG (HMZ.out z (List.mem_of_getElem? hz)) HAT.out)
                have u1 : (0 : Int) ≤ (k : Int) := Int.natCast_nonneg _
                have u2 : (k : Int) < (n2 : Int) := by omega
                clear hz
                subst hAE
                go_wp2_with fail
                refine CT.out.mono ?_
                rintro e w9 ⟨rfl, rfl⟩
                go_wp2_with fail
                go_roundw
                case rel => exact ⟨k + 1, by omega, by go_num, by trivial⟩
                case measure => simp [intOf]; omega
              · clear HRT HAT
                go_wp2_with fail
                go_ret
                exact ⟨rfl, hbl.out⟩
  · have ht1 : (sn.toList != cd.toList) = true := by rw [bne_iff_ne]; exact fun e => hsc (by rw [ByteArray.toList_eq, ByteArray.toList_eq] at e; exact ByteArray.ext (Array.toList_inj.1 e))
    have ht2 : (sn.toList == cd.toList) = false := by rw [toList_beq]; exact decide_eq_false hsc
    have HNN := Lib.hid (na_named (ps := pb) (s := cd) (ls := ls) (y := yb) Hthree.out.symm (by rw [← Hsn.out]; exact hsc))
    clear hsc
    have CX13 := Lib.hid (likeT A2 A3 n2 n3 c2 c3 zp w12 hlR (own_text (R_12.out.here)) (own_text (Q_12.out.here)))
    go_wp2_with fail
    refine CX13.out.mono ?_
    rintro e w13 ⟨rfl, g13⟩
    clear CX13
    clear Q_12
    have B_13 := Lib.hid (B_12.out.next g13)
    have Lp_13 := Lib.hid (Lp_12.out.next g13)
    have R_13 := Lib.hid (R_12.out.next g13)
    have Lk_13 := Lib.hid (Lk_12.out.next g13)
    have K_13 := Lib.hid (K_12.out.next g13)
    have J_13 := Lib.hid (J_12.out.next g13)
    have Lb_13 := Lib.hid (Lb_12.out.next g13)
    clear g13 B_12 Lp_12 R_12 Lk_12 K_12 J_12 Lb_12
    have CX14 := Lib.hid (likeT A5 A6 n5 n6 c5 c6 zk w13 hlK (own_text (K_13.out.here)) (own_text (J_13.out.here)))
    go_wp2_with fail
    refine CX14.out.mono ?_
    rintro e w14 ⟨rfl, g14⟩
    clear CX14
    clear J_13
    have B_14 := Lib.hid (B_13.out.next g14)
    have Lp_14 := Lib.hid (Lp_13.out.next g14)
    have R_14 := Lib.hid (R_13.out.next g14)
    have Lk_14 := Lib.hid (Lk_13.out.next g14)
    have K_14 := Lib.hid (K_13.out.next g14)
    have Lb_14 := Lib.hid (Lb_13.out.next g14)
    clear g14 B_13 Lp_13 R_13 Lk_13 K_13 Lb_13
    obtain ⟨zo, hzo⟩ : ∃ z9, z9 = pnZ pb sn yb := ⟨_, rfl⟩
    have Hzo := Lib.hid hzo
    clear hzo
    have HLzo : Hid (zo.length ≤ 1048576) := Lib.hid (by rw [Hzo.out]; exact pnZ_len pb sn yb)
    have HMO : Hid (cd ∈ zo) := Lib.hid (by rw [Hzo.out, Hsn.out]; exact HNN.out.2)
    obtain ⟨seven, hseven⟩ : ∃ z9 : Int, z9 = 0 := ⟨_, rfl⟩
    have Hseven : Hid (seven = pnC pb sn yb) := Lib.hid (by rw [hseven, Hsn.out]; exact HNN.out.1.symm)
    have CX15 := Lib.hid (cNm_impl Ab nb cb pb sn yb w14 (by omega) HZb.out hsn (own_pl2 (Lb_14.out.here) HEb.out) (HSH.out _ (B_14.out.here)) (HER.out _ (B_14.out.here)).e.e)
    go_wp2_with fail
    refine CX15.out.mono ?_
    rintro e w15 ⟨A15, n15, c15, e15, hO15, g15⟩
    clear CX15
    rw [← Hseven.out] at e15
    rw [← Hzo.out] at hO15
    subst e15
    have O15 := Lib.hid hO15
    clear hO15
    have B_15 := Lib.hid (B_14.out.next g15)
    have Lp_15 := Lib.hid (Lp_14.out.next g15)
    have R_15 := Lib.hid (R_14.out.next g15)
    have Lk_15 := Lib.hid (Lk_14.out.next g15)
    have K_15 := Lib.hid (K_14.out.next g15)
    have Lb_15 := Lib.hid (Lb_14.out.next g15)
    clear g15 B_14 Lp_14 R_14 Lk_14 K_14 Lb_14
    have O_15 := Lib.hid (Sp.row O15.out)
    have hlO : n15 ≤ 1048576 := by have h1 := O15.out.1; rw [strV_len] at h1; have h2 := HLzo.out; omega
    clear O15
    subst hseven
    have CX16 := Lib.hid (tHasT cd A15 n15 c15 w15.heap.size zo w15 hlO HMO.out (own_text (O_15.out.here)))
    go_wp2_with fail
    refine CX16.out.mono ?_
    rintro e w' ⟨rfl, rfl⟩
    clear CX16
    by_cases ho0 : one = 0
    rotate_left
    · have ho1 : (one == 0) = false := by rw [beq_eq_false_iff_ne]; exact ho0
      by_cases hb0 : bad = 0
      rotate_left
      · have hb1 : (bad != 0) = true := by simp [hb0]
        go_wp2_with fail
        go_ret
        exact ⟨rfl, (B_15.out.here)⟩
      · subst hb0
        have HPI := Lib.hid (pn_in (ps := ps) (t := tx) (y := y) Hbad.out.symm)
        obtain ⟨za, hza⟩ : ∃ z9, z9 = piZ ps y := ⟨_, rfl⟩
        have Hza := Lib.hid hza
        clear hza
        have HLza : Hid (za.length ≤ 1048576) := Lib.hid (by rw [Hza.out]; exact piZ_len ps y)
        have HMZ : Hid (∀ z ∈ zp, z ∈ za) := Lib.hid (by rw [Hzp.out, Hza.out]; exact HPI.out.2)
        obtain ⟨nine, hnine⟩ : ∃ z9 : Int, z9 = 0 := ⟨_, rfl⟩
        have Hnine : Hid (nine = pyC ps y) := Lib.hid (by rw [hnine]; exact HPI.out.1.symm)
        have CX17 := Lib.hid (cPlIn_impl Ap np cp ps y w15 (by omega) HZp.out (own_pl2 (Lp_15.out.here) HEp.out) (HSH.out _ (B_15.out.here)) (HER.out _ (B_15.out.here)).e.e)
        go_wp2_with fail
        refine CX17.out.mono ?_
        rintro e w17 ⟨A17, n17, c17, e17, hO17, g17⟩
        clear CX17
        rw [← Hnine.out] at e17
        rw [← Hza.out] at hO17
        subst e17
        have O17 := Lib.hid hO17
        clear hO17
        have B_17 := Lib.hid (B_15.out.next g17)
        have Lp_17 := Lib.hid (Lp_15.out.next g17)
        have R_17 := Lib.hid (R_15.out.next g17)
        have Lk_17 := Lib.hid (Lk_15.out.next g17)
        have K_17 := Lib.hid (K_15.out.next g17)
        have Lb_17 := Lib.hid (Lb_15.out.next g17)
        have O_17 := Lib.hid (O_15.out.next g17)
        clear g17 B_15 Lp_15 R_15 Lk_15 K_15 Lb_15 O_15
        have G_17 := Lib.hid (Sp.row O17.out)
        have hlG : n17 ≤ 1048576 := by have h1 := O17.out.1; rw [strV_len] at h1; have h2 := HLza.out; omega
        clear O17
        subst hnine
        have HRT := Lib.hid (own_text (R_17.out.here))
        have HAT := Lib.hid (own_text (G_17.out.here))
        have hbl := Lib.hid (B_17.out.here)
        go_wp2_with fail
        go_loopw [39] (fun i wr => ∃ k : Nat, k ≤ n2 ∧ i = .int .i64 k ∧ w17 = wr) (fun i _ => n2 - (intOf i).toNat)
        case atStart => exact ⟨0, Nat.zero_le _, rfl, rfl⟩
        case round =>
          obtain ⟨k, hk, rfl, rfl⟩ := hrel
          by_cases hlt : k < n2
          · obtain ⟨z, hz⟩ : ∃ z, zp[k]? = some z := ⟨zp[k]'(by have := HRT.out.1; omega), List.getElem?_eq_getElem _⟩
            obtain ⟨gb, go, hAE, _, c0⟩ := HRT.out.row2 hz
            have CT := Lib.hid (tHasT z A17 n17 c17 w17.heap.size za w17 hlG (HMZ.out z (List.mem_of_getElem? hz)) HAT.out)
            have u1 : (0 : Int) ≤ (k : Int) := Int.natCast_nonneg _
            have u2 : (k : Int) < (n2 : Int) := by omega
            clear hz
            subst hAE
            go_wp2_with fail
            refine CT.out.mono ?_
            rintro e w9 ⟨rfl, rfl⟩
            go_wp2_with fail
            go_roundw
            case rel => exact ⟨k + 1, by omega, by go_num, by trivial⟩
            case measure => simp [intOf]; omega
          · clear HRT HAT
            go_wp2_with fail
            go_ret
            exact ⟨rfl, hbl.out⟩
    · subst ho0
      have HPK := Lib.hid (pk_in (ps := pk) (xs := xs) (a := a) (y := yk) Hone.out.symm)
      obtain ⟨zb, hzb⟩ : ∃ z9, z9 = piZ pk yk := ⟨_, rfl⟩
      have Hzb := Lib.hid hzb
      clear hzb
      have HLzb : Hid (zb.length ≤ 1048576) := Lib.hid (by rw [Hzb.out]; exact piZ_len pk yk)
      have HMK : Hid (∀ z ∈ zk, z ∈ zb) := Lib.hid (by rw [Hzk.out, Hzb.out]; exact HPK.out.2)
      obtain ⟨eight, height⟩ : ∃ z9 : Int, z9 = 0 := ⟨_, rfl⟩
      have Height : Hid (eight = pyC pk yk) := Lib.hid (by rw [height]; exact HPK.out.1.symm)
      have CX17 := Lib.hid (cPlIn_impl Ak nk ck pk yk w15 (by omega) HZk.out (own_pl2 (Lk_15.out.here) HEk.out) (HSH.out _ (B_15.out.here)) (HER.out _ (B_15.out.here)).e.e)
      go_wp2_with fail
      refine CX17.out.mono ?_
      rintro e w17 ⟨A17, n17, c17, e17, hO17, g17⟩
      clear CX17
      rw [← Height.out] at e17
      rw [← Hzb.out] at hO17
      subst e17
      have O17 := Lib.hid hO17
      clear hO17
      have B_17 := Lib.hid (B_15.out.next g17)
      have Lp_17 := Lib.hid (Lp_15.out.next g17)
      have R_17 := Lib.hid (R_15.out.next g17)
      have Lk_17 := Lib.hid (Lk_15.out.next g17)
      have K_17 := Lib.hid (K_15.out.next g17)
      have Lb_17 := Lib.hid (Lb_15.out.next g17)
      have O_17 := Lib.hid (O_15.out.next g17)
      clear g17 B_15 Lp_15 R_15 Lk_15 K_15 Lb_15 O_15
      have G_17 := Lib.hid (Sp.row O17.out)
      have hlG : n17 ≤ 1048576 := by have h1 := O17.out.1; rw [strV_len] at h1; have h2 := HLzb.out; omega
      clear O17
      subst height
      have HRT := Lib.hid (own_text (K_17.out.here))
      have HAT := Lib.hid (own_text (G_17.out.here))
      have hbl := Lib.hid (B_17.out.here)
      go_wp2_with fail
      go_loopw [36] (fun i wr => ∃ k : Nat, k ≤ n5 ∧ i = .int .i64 k ∧ w17 = wr) (fun i _ => n5 - (intOf i).toNat)
      case atStart => exact ⟨0, Nat.zero_le _, rfl, rfl⟩
      case round =>
        obtain ⟨k, hk, rfl, rfl⟩ := hrel
        by_cases hlt : k < n5
        · obtain ⟨z, hz⟩ : ∃ z, zk[k]? = some z := ⟨zk[k]'(by have := HRT.out.1; omega), List.getElem?_eq_getElem _⟩
          obtain ⟨gb, go, hAE, _, c0⟩ := HRT.out.row2 hz
          have CT := Lib.hid (tHasT z A17 n17 c17 w17.heap.size zb w17 hlG (HMK.out z (List.mem_of_getElem? hz)) HAT.out)
          have u1 : (0 : Int) ≤ (k : Int) := Int.natCast_nonneg _
          have u2 : (k : Int) < (n5 : Int) := by omega
          clear hz
          subst hAE
          go_wp2_with fail
          refine CT.out.mono ?_
          rintro e w9 ⟨rfl, rfl⟩
          go_wp2_with fail
          go_roundw
          case rel => exact ⟨k + 1, by omega, by go_num, by trivial⟩
          case measure => simp [intOf]; omega
        · clear HRT HAT
          by_cases hb0 : bad = 0
          rotate_left
          · have hb1 : (bad != 0) = true := by simp [hb0]
            go_wp2_with fail
            go_ret
            exact ⟨rfl, (B_17.out.here)⟩
          · subst hb0
            have HPI := Lib.hid (pn_in (ps := ps) (t := tx) (y := y) Hbad.out.symm)
            obtain ⟨za, hza⟩ : ∃ z9, z9 = piZ ps y := ⟨_, rfl⟩
            have Hza := Lib.hid hza
            clear hza
            have HLza : Hid (za.length ≤ 1048576) := Lib.hid (by rw [Hza.out]; exact piZ_len ps y)
            have HMZ : Hid (∀ z ∈ zp, z ∈ za) := Lib.hid (by rw [Hzp.out, Hza.out]; exact HPI.out.2)
            obtain ⟨nine, hnine⟩ : ∃ z9 : Int, z9 = 0 := ⟨_, rfl⟩
            have Hnine : Hid (nine = pyC ps y) := Lib.hid (by rw [hnine]; exact HPI.out.1.symm)
            have CX18 := Lib.hid (cPlIn_impl Ap np cp ps y w17 (by omega) HZp.out (own_pl2 (Lp_17.out.here) HEp.out) (HSH.out _ (B_17.out.here)) (HER.out _ (B_17.out.here)).e.e)
            go_wp2_with fail
            refine CX18.out.mono ?_
            rintro e w18 ⟨A18, n18, c18, e18, hO18, g18⟩
            clear CX18
            rw [← Hnine.out] at e18
            rw [← Hza.out] at hO18
            subst e18
            have O18 := Lib.hid hO18
            clear hO18
            have B_18 := Lib.hid (B_17.out.next g18)
            have Lp_18 := Lib.hid (Lp_17.out.next g18)
            have R_18 := Lib.hid (R_17.out.next g18)
            have Lk_18 := Lib.hid (Lk_17.out.next g18)
            have K_18 := Lib.hid (K_17.out.next g18)
            have Lb_18 := Lib.hid (Lb_17.out.next g18)
            have O_18 := Lib.hid (O_17.out.next g18)
            clear g18 B_17 Lp_17 R_17 Lk_17 K_17 Lb_17 O_17
            have G_18 := Lib.hid (Sp.row O18.out)
            have hlG : n18 ≤ 1048576 := by have h1 := O18.out.1; rw [strV_len] at h1; have h2 := HLza.out; omega
            clear O18
            subst hnine
            have HRT := Lib.hid (own_text (R_18.out.here))
            have HAT := Lib.hid (own_text (G_18.out.here))
            have hbl := Lib.hid (B_18.out.here)
            go_wp2_with fail
            go_loopw [39] (fun i wr => ∃ k : Nat, k ≤ n2 ∧ i = .int .i64 k ∧ w18 = wr) (fun i _ => n2 - (intOf i).toNat)
            case atStart => exact ⟨0, Nat.zero_le _, rfl, rfl⟩
            case round =>
              obtain ⟨k, hk, rfl, rfl⟩ := hrel
              by_cases hlt : k < n2
              · obtain ⟨z, hz⟩ : ∃ z, zp[k]? = some z := ⟨zp[k]'(by have := HRT.out.1; omega), List.getElem?_eq_getElem _⟩
                obtain ⟨gb, go, hAE, _, c0⟩ := HRT.out.row2 hz
                have CT := Lib.hid (tHasT z A18 n18 c18 w18.heap.size za w18 hlG (HMZ.out z (List.mem_of_getElem? hz)) HAT.out)
                have u1 : (0 : Int) ≤ (k : Int) := Int.natCast_nonneg _
                have u2 : (k : Int) < (n2 : Int) := by omega
                clear hz
                subst hAE
                go_wp2_with fail
                refine CT.out.mono ?_
                rintro e w9 ⟨rfl, rfl⟩
                go_wp2_with fail
                go_roundw
                case rel => exact ⟨k + 1, by omega, by go_num, by trivial⟩
                case measure => simp [intOf]; omega
              · clear HRT HAT
                go_wp2_with fail
                go_ret
                exact ⟨rfl, hbl.out⟩
end Go.Proofs.YtglmibmjbignbaaGreatDoor
