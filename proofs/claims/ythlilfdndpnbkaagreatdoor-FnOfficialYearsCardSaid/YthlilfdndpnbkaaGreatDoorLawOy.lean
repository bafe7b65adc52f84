/-
  The law of official years: they are the years with an official name.
-/
import Derived.Test.YthlilfdndpnbkaaGreatDoorNzD
import Derived.Test.YthlilfdndpnbkaaGreatDoorMu19
import Derived.Test.YthlilfdndpnbkaaGreatDoorCodeArg
import Derived.Test.YthlilfdndpnbkaaGreatDoorMu17
namespace Go.Proofs.YthlilfdndpnbkaaGreatDoor
set_option linter.unusedVariables false
open Go.RowKit

theorem Sp.codeY {w : World} {A : Option Addr} {len : Nat} (h : CodeIn w A len) : Sp 0 w.heap.size (fun W => CodeIn W A len) w := ⟨Nat.le_refl _, fun W hW => h.belowZ hW.below⟩
set_option maxHeartbeats 16000000 in
set_option maxRecDepth 100000 in
theorem wOffYears (A : Option Addr) (len cap : Nat) (w : World) (hl : len ≤ maxLen) (h : CodeIn w A len) (hsh : w.ShapedOpen Tryz.prog) (her : Er8 w) :
    Calls Tryz.prog 5 #[.slice A len cap] w fun e w' => e = .returned (.bool true) ∧ Below w.heap.size w w' := by
  have CB := Lib.hid (cBig A len cap w hl)
  by_cases h1 : 4096 < len
  · rw [decide_eq_true h1] at CB
    clear h h1 hl
    go_enter Tryz.func5, Tryz.ntmps5
    go_wp2_with fail
    refine CB.out.mono ?_
    rintro e w' ⟨rfl, rfl⟩
    go_wp2_with fail
    go_ret
    exact ⟨rfl, Below.refl _ _⟩
  rw [decide_eq_false h1] at CB
  have hlen : len ≤ 4096 := by omega
  have C_0 := Lib.hid (Sp.codeY h)
  have B_0 := Lib.hid (Sp.from_ w)
  have HSH : Hid (∀ W, Below w.heap.size w W → W.ShapedOpen Tryz.prog) := Lib.hid (fun W hW => shaped_below hsh hW)
  have HER : Hid (∀ W, Below w.heap.size w W → Er8 W) := Lib.hid (fun W hW => her.below hW)
  clear h h1 hl hsh her
  go_enter Tryz.func5, Tryz.ntmps5
  go_wp2_with fail
  refine CB.out.mono ?_
  rintro e w0 ⟨rfl, rfl⟩
  clear CB
  have CX1 := Lib.hid (cDrawOy A len cap w (by omega) (C_0.out.here))
  go_wp2_with fail
  refine CX1.out.mono ?_
  rintro e w1 ⟨A1, n1, c1, xs, t, rfl, ht, hn1, hsm, hO1, g1⟩
  clear CX1
  have O1 := Lib.hid hO1
  have HZ := Lib.hid (sz_small hsm)
  have HCAP := Lib.hid (own_capZ hO1)
  have htl : t.size ≤ maxLen := by unfold maxLen; omega
  have HTL := Lib.hid htl
  clear hO1 hsm htl
  have C_1 := Lib.hid (C_0.out.next g1)
  have B_1 := Lib.hid (B_0.out.next g1)
  clear g1 C_0 B_0
  have L_1 := Lib.hid (Sp.row O1.out)
  clear O1
  obtain ⟨bad, hbad⟩ : ∃ z9, z9 = oyC xs t := ⟨_, rfl⟩
  have Hhbad := Lib.hid hbad
  clear hbad
  obtain ⟨os, hos⟩ : ∃ z9, z9 = oyZ xs t := ⟨_, rfl⟩
  have Hhos := Lib.hid hos
  clear hos
  have CX2 := Lib.hid (cOy_impl A1 n1 c1 xs t w1 (by omega) HZ.out HTL.out (own_nm (L_1.out.here)) HCAP.out (HSH.out _ (B_1.out.here)) (HER.out _ (B_1.out.here)).e.e)
  go_wp2_with fail
  refine CX2.out.mono ?_
  rintro e w2 ⟨A2, n2, c2, e2, hO2, g2⟩
  clear CX2
  rw [← Hhbad.out] at e2
  rw [← Hhos.out] at hO2
  subst e2
  have O2 := Lib.hid hO2
  clear hO2
  have C_2 := Lib.hid (C_1.out.next g2)
  have B_2 := Lib.hid (B_1.out.next g2)
  have L_2 := Lib.hid (L_1.out.next g2)
  clear g2 C_1 B_1 L_1
  have o_2 := Lib.hid (Sp.row O2.out)
  have CX3 := Lib.hid (cOy_spec A1 n1 c1 xs t w2 (by omega) HZ.out HTL.out (own_nm (L_2.out.here)))
  go_wp2_with fail
  refine CX3.out.mono ?_
  rintro e w3 ⟨A3, n3, c3, e3, hO3, g3⟩
  clear CX3
  rw [← Hhbad.out] at e3
  rw [← Hhos.out] at hO3
  subst e3
  have O3 := Lib.hid hO3
  obtain rfl : n3 = n2 := (own_len2 hO3).trans (own_len2 O2.out).symm
  have hn2 : n3 ≤ 1048576 := by
    have h1 := own_len2 hO3
    have h2 := oyZ_len xs t
    rw [← Hhos.out] at h2
    omega
  clear hO3 O2
  have C_3 := Lib.hid (C_2.out.next g3)
  have B_3 := Lib.hid (B_2.out.next g3)
  have L_3 := Lib.hid (L_2.out.next g3)
  have o_3 := Lib.hid (o_2.out.next g3)
  clear g3 C_2 B_2 L_2 o_2
  have m_3 := Lib.hid (Sp.row O3.out)
  clear O3
  have HF : Hid (bad = 0 → ∀ y : Int, -3000 ≤ y → y ≤ 3000 → yearsB os = true ∧ ((hasB os y = true ∧ offC xs t y = 0) ∨ (hasB os y = false ∧ offC xs t y = 4))) := Lib.hid (fun h0 y k0 k1 => by rw [Hhos.out]; exact oy_has (by rw [← Hhbad.out]; exact h0) k0 k1)
  have hbx : bad = 0 ∨ bad = 1 := by
    rw [Hhbad.out]; unfold oyC; split
    · exact .inl rfl
    · exact .inr rfl
  clear Hhbad Hhos
  have hbb : (bad != bad) = false := by simp
  have CX4 := Lib.hid (cLikeSp A2 A3 n3 c2 c3 os w3 (by omega) (own_span9 (o_3.out.here)) (own_span9 (m_3.out.here)))
  go_wp2_with fail
  refine CX4.out.mono ?_
  rintro e w4 ⟨rfl, g4⟩
  clear CX4
  clear m_3
  have C_4 := Lib.hid (C_3.out.next g4)
  have B_4 := Lib.hid (B_3.out.next g4)
  have L_4 := Lib.hid (L_3.out.next g4)
  have o_4 := Lib.hid (o_3.out.next g4)
  clear g4 C_3 B_3 L_3 o_3
  rcases hbx with rfl | rfl
  · have CR := Lib.hid (cRoll A len cap w4 (by omega) (C_4.out.here))
    go_wp2_with fail
    refine CR.out.mono ?_
    rintro e w5 ⟨rfl, ⟨x0, hT⟩, g5⟩
    have RL : Hid (RollO w w4.heap.size A len cap A2 A1 n3 n1 os xs w5) := Lib.hid ⟨(own_span9 (o_4.out.here)).below g5, (own_nm (L_4.out.here)).below g5 (Nat.le_refl _), ⟨0, x0, Nat.zero_le _, hT⟩, CodeIn.at_ (C_4.out.here) g5, (B_4.out.here).trans (g5.mono (B_4.out.here).size), (B_4.out.here).size⟩
    obtain ⟨D, hD⟩ : ∃ D : Nat, D = w4.heap.size := ⟨_, rfl⟩
    rw [← hD] at RL ⊢
    clear hT g5 CR hD hbb C_4 B_4 L_4 o_4
    go_wp2_with fail
    go_loopw [10] (fun i wr => ∃ m : Nat, i = .int .i64 m ∧ Hid (RollO w D A len cap A2 A1 n3 n1 os xs wr)) (fun i _ => 6 - (intOf i).toNat)
    case atStart => exact ⟨0, rfl, RL⟩
    case round =>
      clear RL
      obtain ⟨m, rfl, HR⟩ := hrel
      by_cases hm : m < 6
      · have z0 : decide ((m : Int) < 6) = true := decide_eq_true (by omega)
        obtain ⟨j, y0, hj, hT⟩ := HR.out.dice
        have CBW := Lib.hid (cBelow A len cap j D y0 wr (by omega) hj HR.out.code hT)
        clear hT
        go_wp2_with fail
        refine CBW.out.mono ?_
        rintro e w17 ⟨r, j', y', hr0, hr1, rfl, hj', hT', gd⟩
        have HR17 := Lib.hid (HR.out.rolled gd hj' hT')
        clear hT' gd HR CBW
        obtain ⟨hyo, hcs⟩ := HF.out (by first | rfl | trivial) (1000 + r) (by omega) (by omega)
        have CA := Lib.hid (cHasYear_impl A2 n3 c2 os (1000 + r) w17 (by omega) (HR17.out.s1.more (Nat.le_of_lt HR17.out.lt)))
        have CO := Lib.hid (fun W (hW : RollO w D A len cap A2 A1 n3 n1 os xs W) => cOff_impl A1 n1 c1 xs t (1000 + r) W (by omega) HZ.out HTL.out (hW.s2.more (Nat.le_of_lt hW.lt)) HCAP.out (HSH.out _ hW.below) (HER.out _ hW.below))
        rw [hasV_ok hyo] at CA
        obtain ⟨p, hp⟩ : ∃ z, z = hasB os (1000 + r) := ⟨_, rfl⟩
        obtain ⟨two, h2⟩ : ∃ z, z = offC xs t (1000 + r) := ⟨_, rfl⟩
        obtain ⟨z9, hz9⟩ : ∃ z, z = offZ xs t (1000 + r) := ⟨_, rfl⟩
        rw [← hp] at CA hcs
        rw [← h2] at CO hcs
        rw [← hz9] at CO
        clear hp h2 hz9 hyo
        go_wp2_with fail
        refine CA.out.mono ?_
        rintro e w18 ⟨rfl, g18⟩
        have HR18 := Lib.hid (HR17.out.after g18)
        clear g18 CA HR17
        go_wp2_with fail
        refine (CO.out _ HR18.out).mono ?_
        rintro e w19 ⟨rfl, g19⟩
        have HR19 := Lib.hid (HR18.out.after g19)
        clear g19 CO HR18
        rcases hcs with ⟨rfl, rfl⟩ | ⟨rfl, rfl⟩
        all_goals
          go_wp2_with fail
          go_roundw
          case rel => exact ⟨m + 1, by go_num, HR19⟩
          case measure => simp [intOf]; omega
      · have z0 : decide ((m : Int) < 6) = false := decide_eq_false (by omega)
        have HB9 := Lib.hid HR.out.below
        clear HR
        go_wp2_with fail
        go_ret
        exact ⟨rfl, HB9.out⟩
  · have HB9 := Lib.hid (B_4.out.here)
    go_wp2_with fail
    go_ret
    exact ⟨rfl, HB9.out⟩
end Go.Proofs.YthlilfdndpnbkaaGreatDoor
