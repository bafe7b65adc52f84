/-
  The law of forms: a word is a form of each of its bases.
-/
import Derived.Test.YtippjomkbpiliaaDraw8F
import Derived.Test.YtippjomkbpiliaaFormsM
import Derived.Test.YtippjomkbpiliaaLikeN
import Derived.Test.YtippjomkbpiliaaLikeT
import Derived.Test.YtippjomkbpiliaaCsS
import Derived.Test.YtippjomkbpiliaaEnLaw
import Derived.Test.YtippjomkbpiliaaSpS
import Derived.Test.YtippjomkbpiliaaSpI
import Derived.Test.YtippjomkbpiliaaBig
import Derived.Test.YtippjomkbpiliaaCodeArg
namespace Go.Proofs.Ytippjomkbpiliaa
set_option linter.unusedVariables false
open Go.RowKit

theorem Sp.code8 {w : World} {A : Option Addr} {len : Nat} (h : CodeIn w A len) : Sp 0 w.heap.size (fun W => CodeIn W A len) w := ⟨Nat.le_refl _, fun W hW => code_below8 h hW.below⟩

set_option maxHeartbeats 16000000 in
set_option maxRecDepth 100000 in
theorem wFormsC (A : Option Addr) (len cap : Nat) (w : World) (hl : len ≤ maxLen) (h : CodeIn w A len) :
    Calls Try.prog 3 #[.slice A len cap] w fun e w' => e = .returned (.bool true) ∧ Below w.heap.size w w' := by
  have CB := Lib.hid (cBig A len cap w hl)
  by_cases h1 : 4096 < len
  · rw [decide_eq_true h1] at CB
    clear h h1 hl
    go_enter Try.func3, Try.ntmps3
    go_wp2_with fail
    refine CB.out.mono ?_
    rintro e w' ⟨rfl, rfl⟩
    go_wp2_with fail
    go_ret
    exact ⟨rfl, Below.refl _ _⟩
  rw [decide_eq_false h1] at CB
  have hlen : len ≤ 4096 := by omega
  have C_0 := Lib.hid (Sp.code8 h)
  have B_0 := Lib.hid (Sp.from_ w)
  clear h h1 hl
  go_enter Try.func3, Try.ntmps3
  go_wp2_with fail
  refine CB.out.mono ?_
  rintro e w0 ⟨rfl, rfl⟩
  clear CB
  have CX1 := Lib.hid (cDrawBases A len cap w (by omega) C_0.out.here)
  go_wp2_with fail
  refine CX1.out.mono ?_
  rintro e w1 ⟨gg1, n1, c1, xs, word, hn1, hc1, hz, hword, rfl, hR, g1⟩
  clear CX1
  have HZ1 := Lib.hid hz
  clear hz
  have C_1 := Lib.hid (C_0.out.next g1)
  have B_1 := Lib.hid (B_0.out.next g1)
  clear g1 C_0 B_0
  have T_1 := Lib.hid (Sp.en (own_en hR))
  clear hR
  obtain ⟨bz, hbz⟩ : ∃ z, z = basesZ xs word := ⟨_, rfl⟩
  have Hhbz := Lib.hid hbz
  clear hbz
  obtain ⟨bad, hbad⟩ : ∃ z, z = fmC xs word := ⟨_, rfl⟩
  have Hhbad := Lib.hid hbad
  clear hbad
  obtain ⟨fz, hfz⟩ : ∃ z, z = formsZ xs word := ⟨_, rfl⟩
  have Hhfz := Lib.hid hfz
  clear hfz
  have CX2 := Lib.hid (tBases_impl (some ⟨gg1, 0, none⟩) n1 c1 xs word w1 (by omega) hc1 (fun e he => by have := HZ1.out e he; omega) (by omega) T_1.out.here)
  go_wp2_with fail
  refine CX2.out.mono ?_
  rintro e w2 ⟨bA, bn, bc, e2, hR, g2⟩
  clear CX2
  rw [← Hhbad.out] at e2
  rw [← Hhbz.out] at hR
  subst e2
  have C_2 := Lib.hid (C_1.out.next g2)
  have B_2 := Lib.hid (B_1.out.next g2)
  have T_2 := Lib.hid (T_1.out.next g2)
  clear g2 C_1 B_1 T_1
  have RB_2 := Lib.hid (Sp.text (own_text hR))
  clear hR
  have CX3 := Lib.hid (tBases_spec (some ⟨gg1, 0, none⟩) n1 c1 xs word w2 (by omega) (fun e he => by have := HZ1.out e he; omega) (by omega) T_2.out.here)
  go_wp2_with fail
  refine CX3.out.mono ?_
  rintro e w3 ⟨mA, mn, mc, e3, hR, g3⟩
  clear CX3
  rw [← Hhbad.out] at e3
  rw [← Hhbz.out] at hR
  subst e3
  have C_3 := Lib.hid (C_2.out.next g3)
  have B_3 := Lib.hid (B_2.out.next g3)
  have T_3 := Lib.hid (T_2.out.next g3)
  have RB_3 := Lib.hid (RB_2.out.next g3)
  clear g3 C_2 B_2 T_2 RB_2
  have RM_3 := Lib.hid (Sp.text (own_text hR))
  clear hR
  have CX4 := Lib.hid (tForms_impl (some ⟨gg1, 0, none⟩) n1 c1 xs word w3 (by omega) hc1 (fun e he => by have := HZ1.out e he; omega) (by omega) T_3.out.here)
  go_wp2_with fail
  refine CX4.out.mono ?_
  rintro e w4 ⟨fA, fn, fc, e4, hR, g4⟩
  clear CX4
  rw [← Hhbad.out] at e4
  rw [← Hhfz.out] at hR
  subst e4
  have C_4 := Lib.hid (C_3.out.next g4)
  have B_4 := Lib.hid (B_3.out.next g4)
  have T_4 := Lib.hid (T_3.out.next g4)
  have RB_4 := Lib.hid (RB_3.out.next g4)
  have RM_4 := Lib.hid (RM_3.out.next g4)
  clear g4 C_3 B_3 T_3 RB_3 RM_3
  have RF_4 := Lib.hid (Sp.text (own_text hR))
  clear hR
  have CX5 := Lib.hid (tForms_spec (some ⟨gg1, 0, none⟩) n1 c1 xs word w4 (by omega) (fun e he => by have := HZ1.out e he; omega) (by omega) T_4.out.here)
  go_wp2_with fail
  refine CX5.out.mono ?_
  rintro e w5 ⟨gA, gn, gc, e5, hR, g5⟩
  clear CX5
  rw [← Hhbad.out] at e5
  rw [← Hhfz.out] at hR
  subst e5
  have C_5 := Lib.hid (C_4.out.next g5)
  have B_5 := Lib.hid (B_4.out.next g5)
  have T_5 := Lib.hid (T_4.out.next g5)
  have RB_5 := Lib.hid (RB_4.out.next g5)
  have RM_5 := Lib.hid (RM_4.out.next g5)
  have RF_5 := Lib.hid (RF_4.out.next g5)
  clear g5 C_4 B_4 T_4 RB_4 RM_4 RF_4
  have RG_5 := Lib.hid (Sp.text (own_text hR))
  clear hR
  have HBK : Hid (bad = 0 → ∀ x, x ∈ bz → fmC xs x = 0 ∧ hasT word (formsZ xs x) = true ∧ x.size ≤ 16) := Lib.hid (fun h0 x hx => bases_back (by rw [← Hhbad.out]; exact h0) (by rw [← Hhbz.out]; exact hx))
  have HBL : Hid (bz.length ≤ 16) := Lib.hid (by rw [Hhbz.out]; exact basesZ_len _ _)
  have HFL : Hid (fz.length ≤ 16) := Lib.hid (by rw [Hhfz.out]; exact formsZ_len _ _)
  clear Hhbz Hhbad Hhfz
  have CX6 := Lib.hid (cDrawCases A len cap w5 (by omega) C_5.out.here)
  go_wp2_with fail
  refine CX6.out.mono ?_
  rintro e w6 ⟨gg2, n2, c2, ys, base, form, hn2, hc2, hz2, hbase, hform, rfl, hE, g6⟩
  clear CX6
  have HZ2 := Lib.hid hz2
  clear hz2
  clear C_5
  have B_6 := Lib.hid (B_5.out.next g6)
  have T_6 := Lib.hid (T_5.out.next g6)
  have RB_6 := Lib.hid (RB_5.out.next g6)
  have RM_6 := Lib.hid (RM_5.out.next g6)
  have RF_6 := Lib.hid (RF_5.out.next g6)
  have RG_6 := Lib.hid (RG_5.out.next g6)
  clear g6 B_5 T_5 RB_5 RM_5 RF_5 RG_5
  have S_6 := Lib.hid (Sp.en hE)
  clear hE
  obtain ⟨cz, hcz⟩ : ∃ z, z = csZ ys base form := ⟨_, rfl⟩
  have Hhcz := Lib.hid hcz
  clear hcz
  obtain ⟨three, hthree⟩ : ∃ z, z = csC ys base form := ⟨_, rfl⟩
  have Hhthree := Lib.hid hthree
  clear hthree
  have CX7 := Lib.hid (tCases_impl (some ⟨gg2, 0, none⟩) n2 c2 ys base form w6 (by omega) hc2 (fun e he => by have := HZ2.out e he; omega) (by omega) (by omega) S_6.out.here)
  go_wp2_with fail
  refine CX7.out.mono ?_
  rintro e w7 ⟨cvA, cvn, cvc, e7, hR, g7⟩
  clear CX7
  rw [← Hhthree.out] at e7
  rw [← Hhcz.out] at hR
  subst e7
  have B_7 := Lib.hid (B_6.out.next g7)
  have T_7 := Lib.hid (T_6.out.next g7)
  have RB_7 := Lib.hid (RB_6.out.next g7)
  have RM_7 := Lib.hid (RM_6.out.next g7)
  have RF_7 := Lib.hid (RF_6.out.next g7)
  have RG_7 := Lib.hid (RG_6.out.next g7)
  have S_7 := Lib.hid (S_6.out.next g7)
  clear g7 B_6 T_6 RB_6 RM_6 RF_6 RG_6 S_6
  have CV_7 := Lib.hid (Sp.num (own_num hR))
  clear hR
  have CX8 := Lib.hid (tCases_spec (some ⟨gg2, 0, none⟩) n2 c2 ys base form w7 (by omega) (fun e he => by have := HZ2.out e he; omega) (by omega) (by omega) S_7.out.here)
  go_wp2_with fail
  refine CX8.out.mono ?_
  rintro e w8 ⟨kvA, kvn, kvc, e8, hR, g8⟩
  clear CX8
  rw [← Hhthree.out] at e8
  rw [← Hhcz.out] at hR
  subst e8
  have B_8 := Lib.hid (B_7.out.next g8)
  have T_8 := Lib.hid (T_7.out.next g8)
  have RB_8 := Lib.hid (RB_7.out.next g8)
  have RM_8 := Lib.hid (RM_7.out.next g8)
  have RF_8 := Lib.hid (RF_7.out.next g8)
  have RG_8 := Lib.hid (RG_7.out.next g8)
  have S_8 := Lib.hid (S_7.out.next g8)
  have CV_8 := Lib.hid (CV_7.out.next g8)
  clear g8 B_7 T_7 RB_7 RM_7 RF_7 RG_7 S_7 CV_7
  have KV_8 := Lib.hid (Sp.num (own_num hR))
  clear hR
  have HCS : Hid (three = 0 → fmC ys base = 0 ∧ hasT form (formsZ ys base) = decide (0 < cz.length)) := Lib.hid (fun h0 => by rw [Hhcz.out]; exact cases_facts (by rw [← Hhthree.out]; exact h0))
  have HCL : Hid (cz.length ≤ 16) := Lib.hid (by rw [Hhcz.out]; exact csZ_len _ _ _)
  clear Hhcz Hhthree
  have hlb : bn ≤ 16 := by have h9 := (RB_8.out.here).1; have := HBL.out; omega
  have hlf : fn ≤ 16 := by have h9 := (RF_8.out.here).1; have := HFL.out; omega
  have hlcv : cvn ≤ 16 := by have h9 := (CV_8.out.here).1; have := HCL.out; omega
  have HCN : Hid (cvn = cz.length) := Lib.hid (CV_8.out.here).1
  have hbb : (bad != bad) = false := by simp
  have h33 : (three != three) = false := by simp
  have CX9 := Lib.hid (likeT bA mA bn mn bc mc bz w8 (by omega) RB_8.out.here RM_8.out.here)
  go_wp2_with fail
  refine CX9.out.mono ?_
  rintro e w9 ⟨rfl, g9⟩
  clear CX9
  clear RM_8
  have B_9 := Lib.hid (B_8.out.next g9)
  have T_9 := Lib.hid (T_8.out.next g9)
  have RB_9 := Lib.hid (RB_8.out.next g9)
  have RF_9 := Lib.hid (RF_8.out.next g9)
  have RG_9 := Lib.hid (RG_8.out.next g9)
  have S_9 := Lib.hid (S_8.out.next g9)
  have CV_9 := Lib.hid (CV_8.out.next g9)
  have KV_9 := Lib.hid (KV_8.out.next g9)
  clear g9 B_8 T_8 RB_8 RF_8 RG_8 S_8 CV_8 KV_8
  have CX10 := Lib.hid (likeT fA gA fn gn fc gc fz w9 (by omega) RF_9.out.here RG_9.out.here)
  go_wp2_with fail
  refine CX10.out.mono ?_
  rintro e w10 ⟨rfl, g10⟩
  clear CX10
  clear RF_9
  clear RG_9
  have B_10 := Lib.hid (B_9.out.next g10)
  have T_10 := Lib.hid (T_9.out.next g10)
  have RB_10 := Lib.hid (RB_9.out.next g10)
  have S_10 := Lib.hid (S_9.out.next g10)
  have CV_10 := Lib.hid (CV_9.out.next g10)
  have KV_10 := Lib.hid (KV_9.out.next g10)
  clear g10 B_9 T_9 RB_9 S_9 CV_9 KV_9
  have CX11 := Lib.hid (likeN cvA kvA cvn kvn cvc kvc cz w10 (by omega) CV_10.out.here KV_10.out.here)
  go_wp2_with fail
  refine CX11.out.mono ?_
  rintro e w11 ⟨rfl, g11⟩
  clear CX11
  clear CV_10
  clear KV_10
  have B_11 := Lib.hid (B_10.out.next g11)
  have T_11 := Lib.hid (T_10.out.next g11)
  have RB_11 := Lib.hid (RB_10.out.next g11)
  have S_11 := Lib.hid (S_10.out.next g11)
  clear g11 B_10 T_10 RB_10 S_10
  obtain ⟨tb, htb⟩ : ∃ z, z = tabE xs := ⟨_, rfl⟩
  have Hhtb := Lib.hid htb
  clear htb
  have CX12 := Lib.hid (tTabE_impl (some ⟨gg1, 0, none⟩) n1 c1 xs w11 (by omega) hc1 (fun e he => by have := HZ1.out e he; unfold maxLen; omega) T_11.out.here)
  go_wp2_with fail
  refine CX12.out.mono ?_
  rintro e w12 ⟨e12, g12⟩
  clear CX12
  rw [← Hhtb.out] at e12
  subst e12
  have B_12 := Lib.hid (B_11.out.next g12)
  have T_12 := Lib.hid (T_11.out.next g12)
  have RB_12 := Lib.hid (RB_11.out.next g12)
  have S_12 := Lib.hid (S_11.out.next g12)
  clear g12 B_11 T_11 RB_11 S_11
  have CX13 := Lib.hid (tTabE_spec (some ⟨gg1, 0, none⟩) n1 c1 xs w12 (by omega) (fun e he => by have := HZ1.out e he; unfold maxLen; omega) T_12.out.here)
  go_wp2_with fail
  refine CX13.out.mono ?_
  rintro e w13 ⟨e13, g13⟩
  clear CX13
  rw [← Hhtb.out] at e13
  subst e13
  have B_13 := Lib.hid (B_12.out.next g13)
  have T_13 := Lib.hid (T_12.out.next g13)
  have RB_13 := Lib.hid (RB_12.out.next g13)
  have S_13 := Lib.hid (S_12.out.next g13)
  clear g13 B_12 T_12 RB_12 S_12
  have htt : (tb != tb) = false := by simp
  clear Hhtb
  by_cases h30 : three = 0
  · have h3n : (three == 0) = true := by simp [h30]
    obtain ⟨k1, k2⟩ := HCS.out h30
    rw [← HCN.out] at k2
    clear HCS h30
    have CX14 := Lib.hid (tForms_impl (some ⟨gg2, 0, none⟩) n2 c2 ys base w13 (by omega) hc2 (fun e he => by have := HZ2.out e he; omega) (by omega) S_13.out.here)
    go_wp2_with fail
    refine CX14.out.mono ?_
    rintro e w14 ⟨aA, an, ac, e14, hR, g14⟩
    clear CX14
    rw [k1] at e14
    subst e14
    have HAL := Lib.hid (formsZ_len ys base)
    have HK2 := Lib.hid k2
    generalize formsZ ys base = az at hR HAL HK2
    clear k1 k2
    clear S_13
    have B_14 := Lib.hid (B_13.out.next g14)
    have T_14 := Lib.hid (T_13.out.next g14)
    have RB_14 := Lib.hid (RB_13.out.next g14)
    clear g14 B_13 T_13 RB_13
    have RA_14 := Lib.hid (Sp.text (own_text hR))
    clear hR
    have CH14 := Lib.hid (aHasT form aA an ac w14.heap.size az w14 (by have := (RA_14.out.here).1; have := HAL.out; omega) RA_14.out.here)
    rw [HK2.out] at CH14
    clear HK2 HAL
    by_cases hcp : 0 < cvn
    · rw [decide_eq_true hcp] at CH14
      have hcz : decide ((0 : Int) < (cvn : Int)) = true := decide_eq_true (by omega)
      by_cases hb0 : bad = 0
      · have hb1 : (bad == 0) = true := by simp [hb0]
        have HB0 := Lib.hid (HBK.out hb0)
        have HW0 := Lib.hid (Below.refl w14.heap.size w14)
        clear hb0 HBK
        go_wp2_with (go_at_call 22; refine CH14.out.mono ?_; rintro e w' ⟨rfl, rfl⟩)
        go_loopw [22, 23, 24] (fun i p q wr => ∃ (k : Nat) (y z : Value), k ≤ bn ∧ i = .int .i64 (k : Int) ∧ y = p ∧ z = q ∧ Hid (Below w14.heap.size w14 wr)) (fun i _ _ _ => bn - (intOf i).toNat)
        case atStart => exact ⟨0, _, _, Nat.zero_le _, rfl, rfl, rfl, HW0⟩
        case round =>
          clear HW0
          obtain ⟨k, y, z, hk, rfl, rfl, rfl, HW⟩ := hrel
          by_cases hlt : k < bn
          · have hUw := RB_14.out.2 wr (Like.of_below HW.out RB_14.out.1)
            have hTw := T_14.out.2 wr (Like.of_below HW.out T_14.out.1)
            obtain ⟨x, hx⟩ : ∃ x, bz[k]? = some x := ⟨bz[k]'(by have := hUw.1; omega), List.getElem?_eq_getElem _⟩
            obtain ⟨k1, k2, k3⟩ := HB0.out x (List.mem_of_getElem? hx)
            obtain ⟨b2, o2, hA2, hb2, hc2⟩ := hUw.2 (by omega)
            subst hA2
            have kn := hc2 k x hx
            have hkn : (k : Int) < (bn : Int) := by omega
            have hk0 : (0 : Int) ≤ (k : Int) := Int.natCast_nonneg _
            have CF := Lib.hid (tForms_impl (some ⟨gg1, 0, none⟩) n1 c1 xs x wr (by omega) hc1 (fun e he => by have := HZ1.out e he; omega) (by omega) hTw)
            rw [k1] at CF
            have HFL2 := Lib.hid (formsZ_len xs x)
            have HK2 := Lib.hid k2
            generalize formsZ xs x = fx at CF HFL2 HK2
            clear hx hUw hTw hc2 hb2 k1 k2 k3
            go_wp2_with fail
            refine CF.out.mono ?_
            rintro e w20 ⟨A5, n5, c5, rfl, hR5, g20⟩
            have HT5 := Lib.hid (own_text hR5)
            have HW2 := Lib.hid (HW.out.trans (g20.mono HW.out.size))
            have CH := Lib.hid (aHasT word A5 n5 c5 w20.heap.size fx w20 (by have := HT5.out.1; have := HFL2.out; omega) HT5.out)
            rw [HK2.out] at CH
            clear hR5 g20 CF HT5 HFL2 HK2
            go_wp2_with (go_at_call 22; refine CH.out.mono ?_; rintro e w' ⟨rfl, rfl⟩)
            go_roundw
            case rel => exact ⟨k + 1, _, _, by omega, by go_num, rfl, rfl, HW2⟩
            case measure => simp [intOf]; omega
          · have HB9 := Lib.hid (B_14.out.here.trans (HW.out.mono B_14.out.1))
            go_wp2_with fail
            go_ret
            exact ⟨rfl, HB9.out⟩
      · have hb1 : (bad == 0) = false := by rw [beq_eq_false_iff_ne]; exact hb0
        have HB9 := Lib.hid B_14.out.here
        clear hb0 HBK
        go_wp2_with (go_at_call 22; refine CH14.out.mono ?_; rintro e w' ⟨rfl, rfl⟩)
        refine wp_loop_rounds 1 ?_
        rw [rounds_succ]
        go_wp2_with fail
        go_ret
        exact ⟨rfl, HB9.out⟩
    · rw [decide_eq_false hcp] at CH14
      have hcz : decide ((0 : Int) < (cvn : Int)) = false := decide_eq_false (by omega)
      by_cases hb0 : bad = 0
      · have hb1 : (bad == 0) = true := by simp [hb0]
        have HB0 := Lib.hid (HBK.out hb0)
        have HW0 := Lib.hid (Below.refl w14.heap.size w14)
        clear hb0 HBK
        go_wp2_with (go_at_call 22; refine CH14.out.mono ?_; rintro e w' ⟨rfl, rfl⟩)
        go_loopw [22, 23, 24] (fun i p q wr => ∃ (k : Nat) (y z : Value), k ≤ bn ∧ i = .int .i64 (k : Int) ∧ y = p ∧ z = q ∧ Hid (Below w14.heap.size w14 wr)) (fun i _ _ _ => bn - (intOf i).toNat)
        case atStart => exact ⟨0, _, _, Nat.zero_le _, rfl, rfl, rfl, HW0⟩
        case round =>
          clear HW0
          obtain ⟨k, y, z, hk, rfl, rfl, rfl, HW⟩ := hrel
          by_cases hlt : k < bn
          · have hUw := RB_14.out.2 wr (Like.of_below HW.out RB_14.out.1)
            have hTw := T_14.out.2 wr (Like.of_below HW.out T_14.out.1)
            obtain ⟨x, hx⟩ : ∃ x, bz[k]? = some x := ⟨bz[k]'(by have := hUw.1; omega), List.getElem?_eq_getElem _⟩
            obtain ⟨k1, k2, k3⟩ := HB0.out x (List.mem_of_getElem? hx)
            obtain ⟨b2, o2, hA2, hb2, hc2⟩ := hUw.2 (by omega)
            subst hA2
            have kn := hc2 k x hx
            have hkn : (k : Int) < (bn : Int) := by omega
            have hk0 : (0 : Int) ≤ (k : Int) := Int.natCast_nonneg _
            have CF := Lib.hid (tForms_impl (some ⟨gg1, 0, none⟩) n1 c1 xs x wr (by omega) hc1 (fun e he => by have := HZ1.out e he; omega) (by omega) hTw)
            rw [k1] at CF
            have HFL2 := Lib.hid (formsZ_len xs x)
            have HK2 := Lib.hid k2
            generalize formsZ xs x = fx at CF HFL2 HK2
            clear hx hUw hTw hc2 hb2 k1 k2 k3
            go_wp2_with fail
            refine CF.out.mono ?_
            rintro e w20 ⟨A5, n5, c5, rfl, hR5, g20⟩
            have HT5 := Lib.hid (own_text hR5)
            have HW2 := Lib.hid (HW.out.trans (g20.mono HW.out.size))
            have CH := Lib.hid (aHasT word A5 n5 c5 w20.heap.size fx w20 (by have := HT5.out.1; have := HFL2.out; omega) HT5.out)
            rw [HK2.out] at CH
            clear hR5 g20 CF HT5 HFL2 HK2
            go_wp2_with (go_at_call 22; refine CH.out.mono ?_; rintro e w' ⟨rfl, rfl⟩)
            go_roundw
            case rel => exact ⟨k + 1, _, _, by omega, by go_num, rfl, rfl, HW2⟩
            case measure => simp [intOf]; omega
          · have HB9 := Lib.hid (B_14.out.here.trans (HW.out.mono B_14.out.1))
            go_wp2_with fail
            go_ret
            exact ⟨rfl, HB9.out⟩
      · have hb1 : (bad == 0) = false := by rw [beq_eq_false_iff_ne]; exact hb0
        have HB9 := Lib.hid B_14.out.here
        clear hb0 HBK
        go_wp2_with (go_at_call 22; refine CH14.out.mono ?_; rintro e w' ⟨rfl, rfl⟩)
        refine wp_loop_rounds 1 ?_
        rw [rounds_succ]
        go_wp2_with fail
        go_ret
        exact ⟨rfl, HB9.out⟩
  · have h3n : (three == 0) = false := by rw [beq_eq_false_iff_ne]; exact h30
    clear HCS h30
    by_cases hb0 : bad = 0
    · have hb1 : (bad == 0) = true := by simp [hb0]
      have HB0 := Lib.hid (HBK.out hb0)
      have HW0 := Lib.hid (Below.refl w13.heap.size w13)
      clear hb0 HBK
      go_wp2_with fail
      go_loopw [22, 23, 24] (fun i p q wr => ∃ (k : Nat) (y z : Value), k ≤ bn ∧ i = .int .i64 (k : Int) ∧ y = p ∧ z = q ∧ Hid (Below w13.heap.size w13 wr)) (fun i _ _ _ => bn - (intOf i).toNat)
      case atStart => exact ⟨0, _, _, Nat.zero_le _, rfl, rfl, rfl, HW0⟩
      case round =>
        clear HW0
        obtain ⟨k, y, z, hk, rfl, rfl, rfl, HW⟩ := hrel
        by_cases hlt : k < bn
        · have hUw := RB_13.out.2 wr (Like.of_below HW.out RB_13.out.1)
          have hTw := T_13.out.2 wr (Like.of_below HW.out T_13.out.1)
          obtain ⟨x, hx⟩ : ∃ x, bz[k]? = some x := ⟨bz[k]'(by have := hUw.1; omega), List.getElem?_eq_getElem _⟩
          obtain ⟨k1, k2, k3⟩ := HB0.out x (List.mem_of_getElem? hx)
          obtain ⟨b2, o2, hA2, hb2, hc2⟩ := hUw.2 (by omega)
          subst hA2
          have kn := hc2 k x hx
          have hkn : (k : Int) < (bn : Int) := by omega
          have hk0 : (0 : Int) ≤ (k : Int) := Int.natCast_nonneg _
          have CF := Lib.hid (tForms_impl (some ⟨gg1, 0, none⟩) n1 c1 xs x wr (by omega) hc1 (fun e he => by have := HZ1.out e he; omega) (by omega) hTw)
          rw [k1] at CF
          have HFL2 := Lib.hid (formsZ_len xs x)
          have HK2 := Lib.hid k2
          generalize formsZ xs x = fx at CF HFL2 HK2
          clear hx hUw hTw hc2 hb2 k1 k2 k3
          go_wp2_with fail
          refine CF.out.mono ?_
          rintro e w20 ⟨A5, n5, c5, rfl, hR5, g20⟩
          have HT5 := Lib.hid (own_text hR5)
          have HW2 := Lib.hid (HW.out.trans (g20.mono HW.out.size))
          have CH := Lib.hid (aHasT word A5 n5 c5 w20.heap.size fx w20 (by have := HT5.out.1; have := HFL2.out; omega) HT5.out)
          rw [HK2.out] at CH
          clear hR5 g20 CF HT5 HFL2 HK2
          go_wp2_with (go_at_call 22; refine CH.out.mono ?_; rintro e w' ⟨rfl, rfl⟩)
          go_roundw
          case rel => exact ⟨k + 1, _, _, by omega, by go_num, rfl, rfl, HW2⟩
          case measure => simp [intOf]; omega
        · have HB9 := Lib.hid (B_13.out.here.trans (HW.out.mono B_13.out.1))
          go_wp2_with fail
          go_ret
          exact ⟨rfl, HB9.out⟩
    · have hb1 : (bad == 0) = false := by rw [beq_eq_false_iff_ne]; exact hb0
      have HB9 := Lib.hid B_13.out.here
      clear hb0 HBK
      go_wp2_with fail
      refine wp_loop_rounds 1 ?_
      rw [rounds_succ]
      go_wp2_with fail
      go_ret
      exact ⟨rfl, HB9.out⟩
end Go.Proofs.Ytippjomkbpiliaa
