/-
  The law of trees: added classes are leaves, and a moved class is a kind of its new parent.
-/
import Derived.Test.YtlogbgkbdjdkkaaTr10M
import Derived.Test.YtlogbgkbdjdkkaaTr10E
import Derived.Test.YtlogbgkbdjdkkaaLikeN
import Derived.Test.YtlogbgkbdjdkkaaBig
import Derived.Test.YtlogbgkbdjdkkaaCodeArg
namespace Go.Proofs.Ytlogbgkbdjdkkaa
set_option linter.unusedVariables false
open Go.RowKit

theorem Sp.code10 {w : World} {A : Option Addr} {len : Nat} (h : CodeIn w A len) : Sp 0 w.heap.size (fun W => CodeIn W A len) w := ⟨Nat.le_refl _, fun W hW => h.below10 hW.below⟩
set_option maxHeartbeats 16000000 in
set_option maxRecDepth 100000 in
theorem wTrees (A : Option Addr) (len cap : Nat) (w : World) (hl : len ≤ maxLen) (h : CodeIn w A len) :
    Calls Try.prog 4 #[.slice A len cap] w fun e w' => e = .returned (.bool true) ∧ Below w.heap.size w w' := by
  have CB := Lib.hid (cBig A len cap w hl)
  by_cases h1 : 4096 < len
  · rw [decide_eq_true h1] at CB
    clear h h1 hl
    go_enter Try.func4, Try.ntmps4
    go_wp2_with fail
    refine CB.out.mono ?_
    rintro e w' ⟨rfl, rfl⟩
    go_wp2_with fail
    go_ret
    exact ⟨rfl, Below.refl _ _⟩
  rw [decide_eq_false h1] at CB
  have hlen : len ≤ 4096 := by omega
  have C_0 := Lib.hid (Sp.code10 h)
  have B_0 := Lib.hid (Sp.from_ w)
  clear h h1 hl
  go_enter Try.func4, Try.ntmps4
  go_wp2_with fail
  refine CB.out.mono ?_
  rintro e w0 ⟨rfl, rfl⟩
  clear CB
  have CX1 := Lib.hid (cDrawAdd A len cap w (by omega) (C_0.out.here))
  go_wp2_with fail
  refine CX1.out.mono ?_
  rintro e w1 ⟨A1, n1, c1, xs, p, rfl, hn1, hO1, g1⟩
  clear CX1
  have O1 := Lib.hid hO1
  clear hO1
  have C_1 := Lib.hid (C_0.out.next g1)
  have B_1 := Lib.hid (B_0.out.next g1)
  clear g1 C_0 B_0
  have T_1 := Lib.hid (Sp.row O1.out)
  clear O1
  obtain ⟨bad, hbad⟩ : ∃ z9, z9 = addC xs p := ⟨_, rfl⟩
  have Hhbad := Lib.hid hbad
  clear hbad
  have CX2 := Lib.hid (cAddClass_impl A1 n1 c1 xs p w1 (by omega) (own_num (T_1.out.here)))
  go_wp2_with fail
  refine CX2.out.mono ?_
  rintro e w2 ⟨A2, n2, c2, e2, hO2, g2⟩
  clear CX2
  have O2 := Lib.hid hO2
  clear hO2
  rw [← Hhbad.out] at e2
  subst e2
  have C_2 := Lib.hid (C_1.out.next g2)
  have B_2 := Lib.hid (B_1.out.next g2)
  have T_2 := Lib.hid (T_1.out.next g2)
  clear g2 C_1 B_1 T_1
  have a_2 := Lib.hid (Sp.row O2.out)
  clear O2
  have CX3 := Lib.hid (cAddClass_spec A1 n1 c1 xs p w2 (by omega) (own_num (T_2.out.here)))
  go_wp2_with fail
  refine CX3.out.mono ?_
  rintro e w3 ⟨A3, n3, c3, e3, hO3, g3⟩
  clear CX3
  have O3 := Lib.hid hO3
  clear hO3
  rw [← Hhbad.out] at e3
  subst e3
  have C_3 := Lib.hid (C_2.out.next g3)
  have B_3 := Lib.hid (B_2.out.next g3)
  have T_3 := Lib.hid (T_2.out.next g3)
  have a_3 := Lib.hid (a_2.out.next g3)
  clear g3 C_2 B_2 T_2 a_2
  have m_3 := Lib.hid (Sp.row O3.out)
  clear O3
  have CX4 := Lib.hid (cDrawMove A len cap w3 (by omega) (C_3.out.here))
  go_wp2_with fail
  refine CX4.out.mono ?_
  rintro e w4 ⟨A4, n4, c4, ys, y, z, rfl, hn4, hO4, g4⟩
  clear CX4
  have O4 := Lib.hid hO4
  clear hO4
  have C_4 := Lib.hid (C_3.out.next g4)
  have B_4 := Lib.hid (B_3.out.next g4)
  have T_4 := Lib.hid (T_3.out.next g4)
  have a_4 := Lib.hid (a_3.out.next g4)
  have m_4 := Lib.hid (m_3.out.next g4)
  clear g4 C_3 B_3 T_3 a_3 m_3
  have U_4 := Lib.hid (Sp.row O4.out)
  clear O4
  obtain ⟨one, hone⟩ : ∃ z9, z9 = movC ys y z := ⟨_, rfl⟩
  have Hhone := Lib.hid hone
  clear hone
  have CX5 := Lib.hid (cMoveClass_impl A4 n4 c4 ys y z w4 (by omega) (own_num (U_4.out.here)))
  go_wp2_with fail
  refine CX5.out.mono ?_
  rintro e w5 ⟨A5, n5, c5, e5, hO5, g5⟩
  clear CX5
  have O5 := Lib.hid hO5
  clear hO5
  rw [← Hhone.out] at e5
  subst e5
  have C_5 := Lib.hid (C_4.out.next g5)
  have B_5 := Lib.hid (B_4.out.next g5)
  have T_5 := Lib.hid (T_4.out.next g5)
  have a_5 := Lib.hid (a_4.out.next g5)
  have m_5 := Lib.hid (m_4.out.next g5)
  have U_5 := Lib.hid (U_4.out.next g5)
  clear g5 C_4 B_4 T_4 a_4 m_4 U_4
  have b_5 := Lib.hid (Sp.row O5.out)
  clear O5
  have CX6 := Lib.hid (cMoveClass_spec A4 n4 c4 ys y z w5 (by omega) (own_num (U_5.out.here)))
  go_wp2_with fail
  refine CX6.out.mono ?_
  rintro e w6 ⟨A6, n6, c6, e6, hO6, g6⟩
  clear CX6
  have O6 := Lib.hid hO6
  clear hO6
  rw [← Hhone.out] at e6
  subst e6
  clear U_5
  have C_6 := Lib.hid (C_5.out.next g6)
  have B_6 := Lib.hid (B_5.out.next g6)
  have T_6 := Lib.hid (T_5.out.next g6)
  have a_6 := Lib.hid (a_5.out.next g6)
  have m_6 := Lib.hid (m_5.out.next g6)
  have b_6 := Lib.hid (b_5.out.next g6)
  clear g6 C_5 B_5 T_5 a_5 m_5 b_5
  have v_6 := Lib.hid (Sp.row O6.out)
  clear O6
  have CX7 := Lib.hid (cDrawLeaves A len cap w6 (by omega) (C_6.out.here))
  go_wp2_with fail
  refine CX7.out.mono ?_
  rintro e w7 ⟨A7, n7, c7, zs, rfl, hn7, hO7, g7⟩
  clear CX7
  have O7 := Lib.hid hO7
  clear hO7
  clear C_6
  have B_7 := Lib.hid (B_6.out.next g7)
  have T_7 := Lib.hid (T_6.out.next g7)
  have a_7 := Lib.hid (a_6.out.next g7)
  have m_7 := Lib.hid (m_6.out.next g7)
  have b_7 := Lib.hid (b_6.out.next g7)
  have v_7 := Lib.hid (v_6.out.next g7)
  clear g7 B_6 T_6 a_6 m_6 b_6 v_6
  have Z_7 := Lib.hid (Sp.row O7.out)
  clear O7
  obtain ⟨three, hthree⟩ : ∃ z9, z9 = clsC zs [] := ⟨_, rfl⟩
  have Hhthree := Lib.hid hthree
  clear hthree
  have CX8 := Lib.hid (cLeavesOf_impl A7 n7 c7 zs w7 (by omega) (own_num (Z_7.out.here)))
  go_wp2_with fail
  refine CX8.out.mono ?_
  rintro e w8 ⟨A8, n8, c8, e8, hO8, g8⟩
  clear CX8
  have O8 := Lib.hid hO8
  clear hO8
  rw [← Hhthree.out] at e8
  subst e8
  have B_8 := Lib.hid (B_7.out.next g8)
  have T_8 := Lib.hid (T_7.out.next g8)
  have a_8 := Lib.hid (a_7.out.next g8)
  have m_8 := Lib.hid (m_7.out.next g8)
  have b_8 := Lib.hid (b_7.out.next g8)
  have v_8 := Lib.hid (v_7.out.next g8)
  have Z_8 := Lib.hid (Z_7.out.next g8)
  clear g8 B_7 T_7 a_7 m_7 b_7 v_7 Z_7
  have l_8 := Lib.hid (Sp.row O8.out)
  clear O8
  have CX9 := Lib.hid (cLeavesOf_spec A7 n7 c7 zs w8 (by omega) (own_num (Z_8.out.here)))
  go_wp2_with fail
  refine CX9.out.mono ?_
  rintro e w9 ⟨A9, n9, c9, e9, hO9, g9⟩
  clear CX9
  have O9 := Lib.hid hO9
  clear hO9
  rw [← Hhthree.out] at e9
  subst e9
  clear Z_8
  have B_9 := Lib.hid (B_8.out.next g9)
  have T_9 := Lib.hid (T_8.out.next g9)
  have a_9 := Lib.hid (a_8.out.next g9)
  have m_9 := Lib.hid (m_8.out.next g9)
  have b_9 := Lib.hid (b_8.out.next g9)
  have v_9 := Lib.hid (v_8.out.next g9)
  have l_9 := Lib.hid (l_8.out.next g9)
  clear g9 B_8 T_8 a_8 m_8 b_8 v_8 l_8
  have k_9 := Lib.hid (Sp.row O9.out)
  clear O9
  have HA : Hid (bad = 0 → clsC (addZ xs p) [] = 0 ∧ treeB (addZ xs p) = true ∧ ((xs.length : Nat) : Int) ∈ lvZ (addZ xs p)) := Lib.hid (fun h0 => add_facts (by rw [← Hhbad.out]; exact h0))
  have HM : Hid (one = 0 → clsC (movZ ys y z) [y, z] = 0 ∧ isZ (movZ ys y z) y z = true ∧ treeB (movZ ys y z) = true) := Lib.hid (fun h0 => mov_facts (by rw [← Hhone.out]; exact h0))
  have LA := Lib.hid (addZ_len xs p)
  have LM := Lib.hid (movZ_len ys y z)
  have LL := Lib.hid (lvZ_len zs)
  clear Hhbad Hhone Hhthree
  obtain ⟨al, hal⟩ : ∃ s, s = addZ xs p := ⟨_, rfl⟩
  rw [← hal] at a_9 m_9 HA LA
  clear hal
  obtain ⟨ml, hml⟩ : ∃ s, s = movZ ys y z := ⟨_, rfl⟩
  rw [← hml] at b_9 v_9 HM LM
  clear hml
  obtain ⟨ll, hll⟩ : ∃ s, s = lvZ zs := ⟨_, rfl⟩
  rw [← hll] at l_9 k_9 LL
  clear hll
  have hN1 : Hid (n1 = xs.length) := Lib.hid (own_num (T_9.out.here)).1
  have hm2 : n2 ≤ 21 := by have h1 := (own_num (a_9.out.here)).1; have h2 := LA.out; omega
  have hm5 : n5 ≤ 21 := by have h1 := (own_num (b_9.out.here)).1; have h2 := LM.out; omega
  have hm8 : n8 ≤ 21 := by have h1 := (own_num (l_9.out.here)).1; have h2 := LL.out; omega
  have hbb : (bad != bad) = false := by simp
  have hoo : (one != one) = false := by simp
  have h33 : (three != three) = false := by simp
  have CX10 := Lib.hid (likeN A2 A3 n2 n3 c2 c3 al w9 (by omega) (own_num (a_9.out.here)) (own_num (m_9.out.here)))
  go_wp2_with fail
  refine CX10.out.mono ?_
  rintro e w10 ⟨rfl, g10⟩
  clear CX10
  clear m_9
  have B_10 := Lib.hid (B_9.out.next g10)
  have T_10 := Lib.hid (T_9.out.next g10)
  have a_10 := Lib.hid (a_9.out.next g10)
  have b_10 := Lib.hid (b_9.out.next g10)
  have v_10 := Lib.hid (v_9.out.next g10)
  have l_10 := Lib.hid (l_9.out.next g10)
  have k_10 := Lib.hid (k_9.out.next g10)
  clear g10 B_9 T_9 a_9 b_9 v_9 l_9 k_9
  have CX11 := Lib.hid (likeN A5 A6 n5 n6 c5 c6 ml w10 (by omega) (own_num (b_10.out.here)) (own_num (v_10.out.here)))
  go_wp2_with fail
  refine CX11.out.mono ?_
  rintro e w11 ⟨rfl, g11⟩
  clear CX11
  clear v_10
  have B_11 := Lib.hid (B_10.out.next g11)
  have T_11 := Lib.hid (T_10.out.next g11)
  have a_11 := Lib.hid (a_10.out.next g11)
  have b_11 := Lib.hid (b_10.out.next g11)
  have l_11 := Lib.hid (l_10.out.next g11)
  have k_11 := Lib.hid (k_10.out.next g11)
  clear g11 B_10 T_10 a_10 b_10 l_10 k_10
  have CX12 := Lib.hid (likeN A8 A9 n8 n9 c8 c9 ll w11 (by omega) (own_num (l_11.out.here)) (own_num (k_11.out.here)))
  go_wp2_with fail
  refine CX12.out.mono ?_
  rintro e w12 ⟨rfl, g12⟩
  clear CX12
  clear l_11
  clear k_11
  have B_12 := Lib.hid (B_11.out.next g12)
  have T_12 := Lib.hid (T_11.out.next g12)
  have a_12 := Lib.hid (a_11.out.next g12)
  have b_12 := Lib.hid (b_11.out.next g12)
  clear g12 B_11 T_11 a_11 b_11
  by_cases ho0 : one = 0
  · have hon : (one == 0) = true := by simp [ho0]
    obtain ⟨k1, k2, k3⟩ := HM.out ho0
    clear ho0
    have CX13 := Lib.hid (cIsKindOf_impl A5 n5 c5 ml y z w12 (by omega) (own_num (b_12.out.here)))
    go_wp2_with fail
    refine CX13.out.mono ?_
    rintro e w13 ⟨e13, g13⟩
    clear CX13
    rw [k1, k2] at e13
    subst e13
    clear k1 k2
    have B_13 := Lib.hid (B_12.out.next g13)
    have T_13 := Lib.hid (T_12.out.next g13)
    have a_13 := Lib.hid (a_12.out.next g13)
    have b_13 := Lib.hid (b_12.out.next g13)
    clear g13 B_12 T_12 a_12 b_12
    have CX14 := Lib.hid ((cTree_impl A5 n5 c5 _ ml w13 (by unfold maxLen; omega) (own_num (b_13.out.here))).mono (fun e w' h9 => (⟨h9.1, by obtain ⟨m9, e9⟩ := h9.2; rw [e9]; exact below_drA (Below.refl _ _) m9⟩ : _ ∧ Below w13.heap.size w13 w')))
    go_wp2_with fail
    refine CX14.out.mono ?_
    rintro e w14 ⟨e14, g14⟩
    clear CX14
    rw [k3] at e14
    subst e14
    clear k3
    clear b_13
    have B_14 := Lib.hid (B_13.out.next g14)
    have T_14 := Lib.hid (T_13.out.next g14)
    have a_14 := Lib.hid (a_13.out.next g14)
    clear g14 B_13 T_13 a_13
    by_cases hb0 : bad = 0
    · have hbn : (bad != 0) = false := by simp [hb0]
      obtain ⟨f1, f2, f3⟩ := HA.out hb0
      have F3 := Lib.hid f3
      clear hb0 HA HM f3
      have CX20 := Lib.hid (cLeavesOf_impl A2 n2 c2 al w14 (by omega) (own_num (a_14.out.here)))
      go_wp2_with fail
      refine CX20.out.mono ?_
      rintro e w20 ⟨A20, n20, c20, e20, hO20, g20⟩
      clear CX20
      rw [f1] at e20
      subst e20
      have O20 := Lib.hid hO20
      clear hO20 f1
      have B_20 := Lib.hid (B_14.out.next g20)
      have T_20 := Lib.hid (T_14.out.next g20)
      have a_20 := Lib.hid (a_14.out.next g20)
      clear g20 B_14 T_14 a_14
      have q_20 := Lib.hid (Sp.row O20.out)
      clear O20
      have hmq : n20 ≤ 20 := by have h1 := (own_num (q_20.out.here)).1; have h2 := lvZ_len al; omega
      have CX21 := Lib.hid (cHasInt A20 n20 c20 _ (lvZ al) (n1 : Int) w20 (by unfold maxLen; omega) (own_num (q_20.out.here)))
      go_wp2_with fail
      refine CX21.out.mono ?_
      rintro e w21 ⟨e21, rfl⟩
      clear CX21
      rw [decide_eq_true (by rw [hN1.out]; exact F3.out)] at e21
      subst e21
      have CX22 := Lib.hid ((cTree_impl A2 n2 c2 _ al w20 (by unfold maxLen; omega) (own_num (a_20.out.here))).mono (fun e w' h9 => (⟨h9.1, by obtain ⟨m9, e9⟩ := h9.2; rw [e9]; exact below_drA (Below.refl _ _) m9⟩ : _ ∧ Below w20.heap.size w20 w')))
      go_wp2_with fail
      refine CX22.out.mono ?_
      rintro e w22 ⟨e22, g22⟩
      clear CX22
      rw [f2] at e22
      subst e22
      clear f2
      have B_22 := Lib.hid (B_20.out.next g22)
      have T_22 := Lib.hid (T_20.out.next g22)
      have a_22 := Lib.hid (a_20.out.next g22)
      have q_22 := Lib.hid (q_20.out.next g22)
      clear g22 B_20 T_20 a_20 q_20
      have HB9 := Lib.hid (B_22.out.here)
      go_wp2_with fail
      go_ret
      exact ⟨rfl, HB9.out⟩
    · have hbn : (bad != 0) = true := by simp [hb0]
      have HB9 := Lib.hid (B_14.out.here)
      clear hb0 HA HM
      go_wp2_with fail
      go_ret
      exact ⟨rfl, HB9.out⟩
  · have hon : (one == 0) = false := by simp [ho0]
    clear ho0
    by_cases hb0 : bad = 0
    · have hbn : (bad != 0) = false := by simp [hb0]
      obtain ⟨f1, f2, f3⟩ := HA.out hb0
      have F3 := Lib.hid f3
      clear hb0 HA HM f3
      have CX20 := Lib.hid (cLeavesOf_impl A2 n2 c2 al w12 (by omega) (own_num (a_12.out.here)))
      go_wp2_with fail
      refine CX20.out.mono ?_
      rintro e w20 ⟨A20, n20, c20, e20, hO20, g20⟩
      clear CX20
      rw [f1] at e20
      subst e20
      have O20 := Lib.hid hO20
      clear hO20 f1
      have B_20 := Lib.hid (B_12.out.next g20)
      have T_20 := Lib.hid (T_12.out.next g20)
      have a_20 := Lib.hid (a_12.out.next g20)
      have b_20 := Lib.hid (b_12.out.next g20)
      clear g20 B_12 T_12 a_12 b_12
      have q_20 := Lib.hid (Sp.row O20.out)
      clear O20
      have hmq : n20 ≤ 20 := by have h1 := (own_num (q_20.out.here)).1; have h2 := lvZ_len al; omega
      have CX21 := Lib.hid (cHasInt A20 n20 c20 _ (lvZ al) (n1 : Int) w20 (by unfold maxLen; omega) (own_num (q_20.out.here)))
      go_wp2_with fail
      refine CX21.out.mono ?_
      rintro e w21 ⟨e21, rfl⟩
      clear CX21
      rw [decide_eq_true (by rw [hN1.out]; exact F3.out)] at e21
      subst e21
      have CX22 := Lib.hid ((cTree_impl A2 n2 c2 _ al w20 (by unfold maxLen; omega) (own_num (a_20.out.here))).mono (fun e w' h9 => (⟨h9.1, by obtain ⟨m9, e9⟩ := h9.2; rw [e9]; exact below_drA (Below.refl _ _) m9⟩ : _ ∧ Below w20.heap.size w20 w')))
      go_wp2_with fail
      refine CX22.out.mono ?_
      rintro e w22 ⟨e22, g22⟩
      clear CX22
      rw [f2] at e22
      subst e22
      clear f2
      have B_22 := Lib.hid (B_20.out.next g22)
      have T_22 := Lib.hid (T_20.out.next g22)
      have a_22 := Lib.hid (a_20.out.next g22)
      have b_22 := Lib.hid (b_20.out.next g22)
      have q_22 := Lib.hid (q_20.out.next g22)
      clear g22 B_20 T_20 a_20 b_20 q_20
      have HB9 := Lib.hid (B_22.out.here)
      go_wp2_with fail
      go_ret
      exact ⟨rfl, HB9.out⟩
    · have hbn : (bad != 0) = true := by simp [hb0]
      have HB9 := Lib.hid (B_12.out.here)
      clear hb0 HA HM
      go_wp2_with fail
      go_ret
      exact ⟨rfl, HB9.out⟩
end Go.Proofs.Ytlogbgkbdjdkkaa
