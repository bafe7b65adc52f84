/-
  The law of classes: the common kind is the same in both orders, and the distance is the sum of those from it.
-/
import Derived.Test.YtlogbgkbdjdkkaaTr10M
import Derived.Test.YtlogbgkbdjdkkaaTr10E
import Derived.Test.YtlogbgkbdjdkkaaLikeN
import Derived.Test.YtlogbgkbdjdkkaaBig
import Derived.Test.YtlogbgkbdjdkkaaCodeArg
namespace Go.Proofs.Ytlogbgkbdjdkkaa
set_option linter.unusedVariables false
open Go.RowKit

theorem Sp.code10 {w : World} {A : Option Addr} {len : Nat} (h : CodeIn w A len) : Sp 0 w.heap.size (fun W => CodeIn W A len) w := ⟨Nat.le_refl _, fun W hW => h.below10 hW.below⟩
set_option maxHeartbeats 16000000 in
set_option maxRecDepth 100000 in
theorem wClasses (A : Option Addr) (len cap : Nat) (w : World) (hl : len ≤ maxLen) (h : CodeIn w A len) :
    Calls Try.prog 3 #[.slice A len cap] w fun e w' => e = .returned (.bool true) ∧ Below w.heap.size w w' := by
  have CB := Lib.hid (cBig A len cap w hl)
  by_cases h1 : 4096 < len
  · rw [decide_eq_true h1] at CB
    clear h h1 hl
    go_enter Try.func3, Try.ntmps3
    go_wp2_with fail
    refine CB.out.mono ?_
    rintro e w' ⟨rfl, rfl⟩
    go_wp2_with fail
    go_ret
    exact ⟨rfl, Below.refl _ _⟩
  rw [decide_eq_false h1] at CB
  have hlen : len ≤ 4096 := by omega
  have C_0 := Lib.hid (Sp.code10 h)
  have B_0 := Lib.hid (Sp.from_ w)
  clear h h1 hl
  go_enter Try.func3, Try.ntmps3
  go_wp2_with fail
  refine CB.out.mono ?_
  rintro e w0 ⟨rfl, rfl⟩
  clear CB
  have CX1 := Lib.hid (cDrawCommon A len cap w (by omega) (C_0.out.here))
  go_wp2_with fail
  refine CX1.out.mono ?_
  rintro e w1 ⟨A1, n1, c1, xs, a, b, rfl, hn1, hO1, g1⟩
  clear CX1
  have O1 := Lib.hid hO1
  clear hO1
  have C_1 := Lib.hid (C_0.out.next g1)
  have B_1 := Lib.hid (B_0.out.next g1)
  clear g1 C_0 B_0
  have T_1 := Lib.hid (Sp.row O1.out)
  clear O1
  obtain ⟨bad, hbad⟩ : ∃ z9, z9 = clsC xs [a, b] := ⟨_, rfl⟩
  have Hhbad := Lib.hid hbad
  clear hbad
  obtain ⟨cz, hcz⟩ : ∃ z9, z9 = comV xs a b := ⟨_, rfl⟩
  have Hhcz := Lib.hid hcz
  clear hcz
  obtain ⟨dz, hdz⟩ : ∃ z9, z9 = disV xs a b := ⟨_, rfl⟩
  have Hhdz := Lib.hid hdz
  clear hdz
  have CX2 := Lib.hid (cCommonKind_impl A1 n1 c1 xs a b w1 (by omega) (own_num (T_1.out.here)))
  go_wp2_with fail
  refine CX2.out.mono ?_
  rintro e w2 ⟨e2, g2⟩
  clear CX2
  rw [← Hhcz.out, ← Hhbad.out] at e2
  subst e2
  have C_2 := Lib.hid (C_1.out.next g2)
  have B_2 := Lib.hid (B_1.out.next g2)
  have T_2 := Lib.hid (T_1.out.next g2)
  clear g2 C_1 B_1 T_1
  have CX3 := Lib.hid (cCommonKind_spec A1 n1 c1 xs a b w2 (by omega) (own_num (T_2.out.here)))
  go_wp2_with fail
  refine CX3.out.mono ?_
  rintro e w3 ⟨e3, g3⟩
  clear CX3
  rw [← Hhcz.out, ← Hhbad.out] at e3
  subst e3
  have C_3 := Lib.hid (C_2.out.next g3)
  have B_3 := Lib.hid (B_2.out.next g3)
  have T_3 := Lib.hid (T_2.out.next g3)
  clear g3 C_2 B_2 T_2
  have CX4 := Lib.hid (cDistanceOf_impl A1 n1 c1 xs a b w3 (by omega) (own_num (T_3.out.here)))
  go_wp2_with fail
  refine CX4.out.mono ?_
  rintro e w4 ⟨e4, g4⟩
  clear CX4
  rw [← Hhdz.out, ← Hhbad.out] at e4
  subst e4
  have C_4 := Lib.hid (C_3.out.next g4)
  have B_4 := Lib.hid (B_3.out.next g4)
  have T_4 := Lib.hid (T_3.out.next g4)
  clear g4 C_3 B_3 T_3
  have CX5 := Lib.hid (cDistanceOf_spec A1 n1 c1 xs a b w4 (by omega) (own_num (T_4.out.here)))
  go_wp2_with fail
  refine CX5.out.mono ?_
  rintro e w5 ⟨e5, g5⟩
  clear CX5
  rw [← Hhdz.out, ← Hhbad.out] at e5
  subst e5
  have C_5 := Lib.hid (C_4.out.next g5)
  have B_5 := Lib.hid (B_4.out.next g5)
  have T_5 := Lib.hid (T_4.out.next g5)
  clear g5 C_4 B_4 T_4
  have CX6 := Lib.hid (cDrawIs A len cap w5 (by omega) (C_5.out.here))
  go_wp2_with fail
  refine CX6.out.mono ?_
  rintro e w6 ⟨A6, n6, c6, ys, y, z, rfl, hn6, hO6, g6⟩
  clear CX6
  have O6 := Lib.hid hO6
  clear hO6
  have C_6 := Lib.hid (C_5.out.next g6)
  have B_6 := Lib.hid (B_5.out.next g6)
  have T_6 := Lib.hid (T_5.out.next g6)
  clear g6 C_5 B_5 T_5
  have U_6 := Lib.hid (Sp.row O6.out)
  clear O6
  obtain ⟨three, hthree⟩ : ∃ z9, z9 = clsC ys [y, z] := ⟨_, rfl⟩
  have Hhthree := Lib.hid hthree
  clear hthree
  obtain ⟨kz, hkz⟩ : ∃ z9, z9 = isZ ys y z := ⟨_, rfl⟩
  have Hhkz := Lib.hid hkz
  clear hkz
  have CX7 := Lib.hid (cIsKindOf_impl A6 n6 c6 ys y z w6 (by omega) (own_num (U_6.out.here)))
  go_wp2_with fail
  refine CX7.out.mono ?_
  rintro e w7 ⟨e7, g7⟩
  clear CX7
  rw [← Hhkz.out, ← Hhthree.out] at e7
  subst e7
  have C_7 := Lib.hid (C_6.out.next g7)
  have B_7 := Lib.hid (B_6.out.next g7)
  have T_7 := Lib.hid (T_6.out.next g7)
  have U_7 := Lib.hid (U_6.out.next g7)
  clear g7 C_6 B_6 T_6 U_6
  have CX8 := Lib.hid (cIsKindOf_spec A6 n6 c6 ys y z w7 (by omega) (own_num (U_7.out.here)))
  go_wp2_with fail
  refine CX8.out.mono ?_
  rintro e w8 ⟨e8, g8⟩
  clear CX8
  rw [← Hhkz.out, ← Hhthree.out] at e8
  subst e8
  clear U_7
  have C_8 := Lib.hid (C_7.out.next g8)
  have B_8 := Lib.hid (B_7.out.next g8)
  have T_8 := Lib.hid (T_7.out.next g8)
  clear g8 C_7 B_7 T_7
  clear Hhthree Hhkz
  have CX9 := Lib.hid (cDrawSubs A len cap w8 (by omega) (C_8.out.here))
  go_wp2_with fail
  refine CX9.out.mono ?_
  rintro e w9 ⟨A9, n9, c9, zs, v, rfl, hn9, hO9, g9⟩
  clear CX9
  have O9 := Lib.hid hO9
  clear hO9
  clear C_8
  have B_9 := Lib.hid (B_8.out.next g9)
  have T_9 := Lib.hid (T_8.out.next g9)
  clear g9 B_8 T_8
  have Z_9 := Lib.hid (Sp.row O9.out)
  clear O9
  obtain ⟨five, hfive⟩ : ∃ z9, z9 = clsC zs [v] := ⟨_, rfl⟩
  have Hhfive := Lib.hid hfive
  clear hfive
  have CX10 := Lib.hid (cSubclassesOf_impl A9 n9 c9 zs v w9 (by omega) (own_num (Z_9.out.here)))
  go_wp2_with fail
  refine CX10.out.mono ?_
  rintro e w10 ⟨A10, n10, c10, e10, hO10, g10⟩
  clear CX10
  have O10 := Lib.hid hO10
  clear hO10
  rw [← Hhfive.out] at e10
  subst e10
  have B_10 := Lib.hid (B_9.out.next g10)
  have T_10 := Lib.hid (T_9.out.next g10)
  have Z_10 := Lib.hid (Z_9.out.next g10)
  clear g10 B_9 T_9 Z_9
  have s_10 := Lib.hid (Sp.row O10.out)
  clear O10
  have CX11 := Lib.hid (cSubclassesOf_spec A9 n9 c9 zs v w10 (by omega) (own_num (Z_10.out.here)))
  go_wp2_with fail
  refine CX11.out.mono ?_
  rintro e w11 ⟨A11, n11, c11, e11, hO11, g11⟩
  clear CX11
  have O11 := Lib.hid hO11
  clear hO11
  rw [← Hhfive.out] at e11
  subst e11
  have B_11 := Lib.hid (B_10.out.next g11)
  have T_11 := Lib.hid (T_10.out.next g11)
  have Z_11 := Lib.hid (Z_10.out.next g11)
  have s_11 := Lib.hid (s_10.out.next g11)
  clear g11 B_10 T_10 Z_10 s_10
  have t_11 := Lib.hid (Sp.row O11.out)
  clear O11
  have CX12 := Lib.hid (cKindsOf_impl A9 n9 c9 zs v w11 (by omega) (own_num (Z_11.out.here)))
  go_wp2_with fail
  refine CX12.out.mono ?_
  rintro e w12 ⟨A12, n12, c12, e12, hO12, g12⟩
  clear CX12
  have O12 := Lib.hid hO12
  clear hO12
  rw [← Hhfive.out] at e12
  subst e12
  have B_12 := Lib.hid (B_11.out.next g12)
  have T_12 := Lib.hid (T_11.out.next g12)
  have Z_12 := Lib.hid (Z_11.out.next g12)
  have s_12 := Lib.hid (s_11.out.next g12)
  have t_12 := Lib.hid (t_11.out.next g12)
  clear g12 B_11 T_11 Z_11 s_11 t_11
  have l_12 := Lib.hid (Sp.row O12.out)
  clear O12
  have CX13 := Lib.hid (cKindsOf_spec A9 n9 c9 zs v w12 (by omega) (own_num (Z_12.out.here)))
  go_wp2_with fail
  refine CX13.out.mono ?_
  rintro e w13 ⟨A13, n13, c13, e13, hO13, g13⟩
  clear CX13
  have O13 := Lib.hid hO13
  clear hO13
  rw [← Hhfive.out] at e13
  subst e13
  have B_13 := Lib.hid (B_12.out.next g13)
  have T_13 := Lib.hid (T_12.out.next g13)
  have Z_13 := Lib.hid (Z_12.out.next g13)
  have s_13 := Lib.hid (s_12.out.next g13)
  have t_13 := Lib.hid (t_12.out.next g13)
  have l_13 := Lib.hid (l_12.out.next g13)
  clear g13 B_12 T_12 Z_12 s_12 t_12 l_12
  have k_13 := Lib.hid (Sp.row O13.out)
  clear O13
  have HS : Hid (five = 0 → ∀ k : Nat, k < zs.length → clsC zs [(k : Int), v] = 0 ∧ isZ zs (k : Int) v = decide ((k : Int) ∈ sbZ zs v)) := Lib.hid (fun h0 k hk => sub_facts (by rw [← Hhfive.out]; exact h0) hk)
  have HF : Hid (bad = 0 → clsC xs [b, a] = 0 ∧ comV xs b a = cz ∧ clsC xs [a, cz] = 0 ∧ clsC xs [cz, b] = 0 ∧ disV xs a cz + disV xs cz b = dz ∧ (0 ≤ disV xs a cz ∧ disV xs a cz ≤ 40) ∧ (0 ≤ disV xs cz b ∧ disV xs cz b ≤ 40)) := Lib.hid (fun h0 => by rw [Hhcz.out, Hhdz.out]; exact com_facts (by rw [← Hhbad.out]; exact h0))
  clear Hhbad Hhcz Hhdz Hhfive
  have LS := Lib.hid (sbZ_len zs v)
  have LK := Lib.hid (kdZ_len zs v)
  have hN9 : Hid (n9 = zs.length) := Lib.hid (own_num (Z_13.out.here)).1
  obtain ⟨sl, hsl⟩ : ∃ s, s = sbZ zs v := ⟨_, rfl⟩
  rw [← hsl] at s_13 t_13 HS LS
  clear hsl
  obtain ⟨kl, hkl⟩ : ∃ s, s = kdZ zs v := ⟨_, rfl⟩
  rw [← hkl] at l_13 k_13 LK
  clear hkl
  have hm10 : n10 ≤ 21 := by have h1 := (own_num (s_13.out.here)).1; have h2 := LS.out; omega
  have hm12 : n12 ≤ 21 := by have h1 := (own_num (l_13.out.here)).1; have h2 := LK.out; omega
  have hbb : (bad != bad) = false := by simp
  have hcc : (cz != cz) = false := by simp
  have hdd : (dz != dz) = false := by simp
  have h33 : (three != three) = false := by simp
  have hkk : (kz != kz) = false := by simp
  have h55 : (five != five) = false := by simp
  have CX14 := Lib.hid (likeN A10 A11 n10 n11 c10 c11 sl w13 (by omega) (own_num (s_13.out.here)) (own_num (t_13.out.here)))
  go_wp2_with fail
  refine CX14.out.mono ?_
  rintro e w14 ⟨rfl, g14⟩
  clear CX14
  clear t_13
  have B_14 := Lib.hid (B_13.out.next g14)
  have T_14 := Lib.hid (T_13.out.next g14)
  have Z_14 := Lib.hid (Z_13.out.next g14)
  have s_14 := Lib.hid (s_13.out.next g14)
  have l_14 := Lib.hid (l_13.out.next g14)
  have k_14 := Lib.hid (k_13.out.next g14)
  clear g14 B_13 T_13 Z_13 s_13 l_13 k_13
  have CX15 := Lib.hid (likeN A12 A13 n12 n13 c12 c13 kl w14 (by omega) (own_num (l_14.out.here)) (own_num (k_14.out.here)))
  go_wp2_with fail
  refine CX15.out.mono ?_
  rintro e w15 ⟨rfl, g15⟩
  clear CX15
  clear l_14
  clear k_14
  have B_15 := Lib.hid (B_14.out.next g15)
  have T_15 := Lib.hid (T_14.out.next g15)
  have Z_15 := Lib.hid (Z_14.out.next g15)
  have s_15 := Lib.hid (s_14.out.next g15)
  clear g15 B_14 T_14 Z_14 s_14
  obtain ⟨tz, htz⟩ : ∃ z9, z9 = treeB zs := ⟨_, rfl⟩
  have Hhtz := Lib.hid htz
  clear htz
  have htt : (tz != tz) = false := by simp
  have CX16 := Lib.hid ((cTree_impl A9 n9 c9 _ zs w15 (by unfold maxLen; omega) (own_num (Z_15.out.here))).mono (fun e w' h9 => (⟨h9.1, by obtain ⟨m9, e9⟩ := h9.2; rw [e9]; exact below_drA (Below.refl _ _) m9⟩ : _ ∧ Below w15.heap.size w15 w')))
  go_wp2_with fail
  refine CX16.out.mono ?_
  rintro e w16 ⟨e16, g16⟩
  clear CX16
  rw [← Hhtz.out] at e16
  subst e16
  have B_16 := Lib.hid (B_15.out.next g16)
  have T_16 := Lib.hid (T_15.out.next g16)
  have Z_16 := Lib.hid (Z_15.out.next g16)
  have s_16 := Lib.hid (s_15.out.next g16)
  clear g16 B_15 T_15 Z_15 s_15
  have CX17 := Lib.hid ((cTree_spec A9 n9 c9 _ zs w16 (by unfold maxLen; omega) (own_num (Z_16.out.here))).mono (fun e w' h9 => (⟨h9.1, by obtain ⟨m9, e9⟩ := h9.2; rw [e9]; exact below_drA (Below.refl _ _) m9⟩ : _ ∧ Below w16.heap.size w16 w')))
  go_wp2_with fail
  refine CX17.out.mono ?_
  rintro e w17 ⟨e17, g17⟩
  clear CX17
  rw [← Hhtz.out] at e17
  subst e17
  have B_17 := Lib.hid (B_16.out.next g17)
  have T_17 := Lib.hid (T_16.out.next g17)
  have Z_17 := Lib.hid (Z_16.out.next g17)
  have s_17 := Lib.hid (s_16.out.next g17)
  clear g17 B_16 T_16 Z_16 s_16
  clear Hhtz
  go_wp2_with fail
  go_loopw [31, 32, 33] (fun i u q wr => ∃ (k : Nat) (u1 q1 : Value), u1 = u ∧ q1 = q ∧ k ≤ n9 ∧ i = .int .i64 k ∧ Hid (Below w17.heap.size w17 wr)) (fun i _ _ _ => n9 - (intOf i).toNat)
  case atStart => exact ⟨0, _, _, rfl, rfl, Nat.zero_le _, rfl, Lib.hid (Below.refl _ _)⟩
  case round =>
    obtain ⟨k, u1, q1, rfl, rfl, hk, rfl, HR⟩ := hrel
    have g18 := HR.out
    have B_18 := Lib.hid (B_17.out.next g18)
    have T_18 := Lib.hid (T_17.out.next g18)
    have Z_18 := Lib.hid (Z_17.out.next g18)
    have s_18 := Lib.hid (s_17.out.next g18)
    clear g18 B_17 T_17 Z_17 s_17
    by_cases h50 : five = 0
    · have h5n : (five == 0) = true := by simp [h50]
      by_cases hlt : k < n9
      · obtain ⟨k1, k2⟩ := HS.out h50 k (by have := hN9.out; omega)
        have e1 : (0 : Int) ≤ (k : Int) := by omega
        have e2 : (k : Int) < (n9 : Int) := by omega
        clear h50
        have CX19 := Lib.hid (cIsKindOf_impl A9 n9 c9 zs (k : Int) v wr (by omega) (own_num (Z_18.out.here)))
        go_wp2_with fail
        refine CX19.out.mono ?_
        rintro e w19 ⟨e19, g19⟩
        clear CX19
        rw [k1, k2] at e19
        subst e19
        clear k1 k2
        have HR9 := Lib.hid (below_thenA HR.out g19)
        have B_19 := Lib.hid (B_18.out.next g19)
        have T_19 := Lib.hid (T_18.out.next g19)
        have Z_19 := Lib.hid (Z_18.out.next g19)
        have s_19 := Lib.hid (s_18.out.next g19)
        clear g19 B_18 T_18 Z_18 s_18
        obtain ⟨bz, hbz⟩ : ∃ z9, z9 = decide ((k : Int) ∈ sl) := ⟨_, rfl⟩
        have CXH := Lib.hid (cHasInt A10 n10 c10 _ sl (k : Int) w19 (by unfold maxLen; omega) (own_num (s_19.out.here)))
        rw [← hbz] at CXH ⊢
        clear hbz
        have hbe : (bz != bz) = false := by simp
        go_wp2_with fail
        refine CXH.out.mono ?_
        rintro e w' ⟨rfl, rfl⟩
        clear CXH
        go_wp2_with fail
        go_roundw
        case rel => exact ⟨k + 1, _, _, rfl, rfl, by omega, by go_num, HR9⟩
        case measure => simp [intOf]; omega
      · obtain rfl : k = n9 := by omega
        clear h50
        by_cases hb0 : bad = 0
        · have hbn : (bad != 0) = false := by simp [hb0]
          obtain ⟨f1, f2, f3, f4, f5, ⟨f6, f7⟩, f8, f9⟩ := HF.out hb0
          clear hb0 HF
          obtain ⟨pz, hpz⟩ : ∃ z9, z9 = disV xs a cz := ⟨_, rfl⟩
          have Hhpz := Lib.hid hpz
          clear hpz
          obtain ⟨qz, hqz⟩ : ∃ z9, z9 = disV xs cz b := ⟨_, rfl⟩
          have Hhqz := Lib.hid hqz
          clear hqz
          rw [← Hhpz.out] at f5 f6 f7
          rw [← Hhqz.out] at f5 f8 f9
          have F5 := Lib.hid f5
          clear f5
          have CX20 := Lib.hid (cCommonKind_impl A1 n1 c1 xs b a wr (by omega) (own_num (T_18.out.here)))
          go_wp2_with fail
          refine CX20.out.mono ?_
          rintro e w20 ⟨e20, g20⟩
          clear CX20
          rw [f1, f2] at e20
          subst e20
          clear f1 f2
          have B_20 := Lib.hid (B_18.out.next g20)
          have T_20 := Lib.hid (T_18.out.next g20)
          have Z_20 := Lib.hid (Z_18.out.next g20)
          have s_20 := Lib.hid (s_18.out.next g20)
          clear g20 B_18 T_18 Z_18 s_18
          have CX21 := Lib.hid (cDistanceOf_impl A1 n1 c1 xs a cz w20 (by omega) (own_num (T_20.out.here)))
          go_wp2_with fail
          refine CX21.out.mono ?_
          rintro e w21 ⟨e21, g21⟩
          clear CX21
          rw [f3, ← Hhpz.out] at e21
          subst e21
          clear f3 Hhpz
          have B_21 := Lib.hid (B_20.out.next g21)
          have T_21 := Lib.hid (T_20.out.next g21)
          have Z_21 := Lib.hid (Z_20.out.next g21)
          have s_21 := Lib.hid (s_20.out.next g21)
          clear g21 B_20 T_20 Z_20 s_20
          have CX22 := Lib.hid (cDistanceOf_impl A1 n1 c1 xs cz b w21 (by omega) (own_num (T_21.out.here)))
          go_wp2_with fail
          refine CX22.out.mono ?_
          rintro e w22 ⟨e22, g22⟩
          clear CX22
          rw [f4, ← Hhqz.out] at e22
          subst e22
          clear f4 Hhqz
          have B_22 := Lib.hid (B_21.out.next g22)
          have T_22 := Lib.hid (T_21.out.next g22)
          have Z_22 := Lib.hid (Z_21.out.next g22)
          have s_22 := Lib.hid (s_21.out.next g22)
          clear g22 B_21 T_21 Z_21 s_21
          have hce : (cz == cz) = true := by simp
          have hpq : (pz + qz == dz) = true := by rw [F5.out]; simp
          have HB9 := Lib.hid (B_22.out.here)
          go_wp2_with fail
          go_ret
          exact ⟨rfl, HB9.out⟩
        · have hbn : (bad != 0) = true := by simp [hb0]
          have HB9 := Lib.hid (B_18.out.here)
          clear hb0 HF
          go_wp2_with fail
          go_ret
          exact ⟨rfl, HB9.out⟩
    · have h5n : (five == 0) = false := by simp [h50]
      clear h50
      by_cases hb0 : bad = 0
      · have hbn : (bad != 0) = false := by simp [hb0]
        obtain ⟨f1, f2, f3, f4, f5, ⟨f6, f7⟩, f8, f9⟩ := HF.out hb0
        clear hb0 HF
        obtain ⟨pz, hpz⟩ : ∃ z9, z9 = disV xs a cz := ⟨_, rfl⟩
        have Hhpz := Lib.hid hpz
        clear hpz
        obtain ⟨qz, hqz⟩ : ∃ z9, z9 = disV xs cz b := ⟨_, rfl⟩
        have Hhqz := Lib.hid hqz
        clear hqz
        rw [← Hhpz.out] at f5 f6 f7
        rw [← Hhqz.out] at f5 f8 f9
        have F5 := Lib.hid f5
        clear f5
        have CX20 := Lib.hid (cCommonKind_impl A1 n1 c1 xs b a wr (by omega) (own_num (T_18.out.here)))
        go_wp2_with fail
        refine CX20.out.mono ?_
        rintro e w20 ⟨e20, g20⟩
        clear CX20
        rw [f1, f2] at e20
        subst e20
        clear f1 f2
        have B_20 := Lib.hid (B_18.out.next g20)
        have T_20 := Lib.hid (T_18.out.next g20)
        have Z_20 := Lib.hid (Z_18.out.next g20)
        have s_20 := Lib.hid (s_18.out.next g20)
        clear g20 B_18 T_18 Z_18 s_18
        have CX21 := Lib.hid (cDistanceOf_impl A1 n1 c1 xs a cz w20 (by omega) (own_num (T_20.out.here)))
        go_wp2_with fail
        refine CX21.out.mono ?_
        rintro e w21 ⟨e21, g21⟩
        clear CX21
        rw [f3, ← Hhpz.out] at e21
        subst e21
        clear f3 Hhpz
        have B_21 := Lib.hid (B_20.out.next g21)
        have T_21 := Lib.hid (T_20.out.next g21)
        have Z_21 := Lib.hid (Z_20.out.next g21)
        have s_21 := Lib.hid (s_20.out.next g21)
        clear g21 B_20 T_20 Z_20 s_20
        have CX22 := Lib.hid (cDistanceOf_impl A1 n1 c1 xs cz b w21 (by omega) (own_num (T_21.out.here)))
        go_wp2_with fail
        refine CX22.out.mono ?_
        rintro e w22 ⟨e22, g22⟩
        clear CX22
        rw [f4, ← Hhqz.out] at e22
        subst e22
        clear f4 Hhqz
        have B_22 := Lib.hid (B_21.out.next g22)
        have T_22 := Lib.hid (T_21.out.next g22)
        have Z_22 := Lib.hid (Z_21.out.next g22)
        have s_22 := Lib.hid (s_21.out.next g22)
        clear g22 B_21 T_21 Z_21 s_21
        have hce : (cz == cz) = true := by simp
        have hpq : (pz + qz == dz) = true := by rw [F5.out]; simp
        have HB9 := Lib.hid (B_22.out.here)
        go_wp2_with fail
        go_ret
        exact ⟨rfl, HB9.out⟩
      · have hbn : (bad != 0) = true := by simp [hb0]
        have HB9 := Lib.hid (B_18.out.here)
        clear hb0 HF
        go_wp2_with fail
        go_ret
        exact ⟨rfl, HB9.out⟩
end Go.Proofs.Ytlogbgkbdjdkkaa
