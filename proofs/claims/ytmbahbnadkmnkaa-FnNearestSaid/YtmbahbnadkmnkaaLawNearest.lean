/-
  The law of nearest words and sharper tables.
-/
import Derived.Test.YtmbahbnadkmnkaaDraw7S
import Derived.Test.YtmbahbnadkmnkaaNearS
import Derived.Test.YtmbahbnadkmnkaaSharp
import Derived.Test.YtmbahbnadkmnkaaLikeN
import Derived.Test.YtmbahbnadkmnkaaBig
import Derived.Test.YtmbahbnadkmnkaaCodeArg
namespace Go.Proofs.Ytmbahbnadkmnkaa
set_option linter.unusedVariables false
open Go.RowKit

theorem Sp.code {w : World} {A : Option Addr} {len : Nat} (h : CodeIn w A len) : Sp 0 w.heap.size (fun W => CodeIn W A len) w := ⟨Nat.le_refl _, fun W hW => h.belowG hW.below⟩
theorem ruleR_self (xs : List Int) (i k : Nat) : ruleR xs xs i k = true := by
  unfold ruleR
  cases (xs[i]? == xs[k]?) <;> rfl
theorem sharp_self (xs : List Int) (i : Nat) : sharpU xs xs i = true := by
  unfold sharpU
  rw [List.all_eq_true]
  intro j _
  unfold sharpI
  rw [List.all_eq_true]
  intro k _
  exact ruleR_self xs j k
theorem shp_self {xs ys : List Int} (h : shpC xs ys = 0) : shpZ xs xs = true ∧ shpC xs xs = 0 := by
  have h1 : shpT xs ys = true := by
    cases h2 : shpT xs ys
    · rw [(shp_no h2).2] at h; cases h
    · rfl
  have h3 : shpT xs xs = true := by
    unfold shpT at h1 ⊢
    rw [Bool.and_eq_true] at h1
    rw [h1.1]; rfl
  rw [(shp_yes h3).1, (shp_yes h3).2]
  exact ⟨sharp_self xs 26, rfl⟩
theorem nerC_most {ls : List ByteArray} {s : ByteArray} {most : Int} (h : nerC ls s most = 0) : 0 ≤ most := by
  have h0 := nerC_zero h
  by_cases h2 : most < 0 ∨ 16 < most
  · rw [nerC_range h0 h2] at h; cases h
  · omega
theorem near_pair {D : Nat → Int} {N K i j p q : Nat} (hi : (nearS D N K)[i]? = some p) (hj : (nearS D N K)[j]? = some q) (hij : i < j) : D p ≤ D q := by
  have h := List.pairwise_iff_getElem.1 (nearS_pair D N K) i j (List.getElem?_eq_some_iff.1 hi).1 (List.getElem?_eq_some_iff.1 hj).1 hij
  rw [(List.getElem?_eq_some_iff.1 hi).2, (List.getElem?_eq_some_iff.1 hj).2] at h
  unfold ltE at h
  rw [decide_eq_false_iff_not] at h
  omega
theorem natI_at {l : List Nat} {k : Nat} {z : Int} (h : (natI l)[k]? = some z) : ∃ p : Nat, z = (p : Int) ∧ l[k]? = some p := by
  unfold natI at h
  rw [List.getElem?_map] at h
  cases hx : l[k]? with
  | none => rw [hx] at h; cases h
  | some x => rw [hx] at h; exact ⟨x, (Option.some.inj h).symm, rfl⟩
/-- What the places that are found have. -/
theorem near_facts {ls : List ByteArray} {s : ByteArray} {most : Int} (h : nerC ls s most = 0) :
    ∃ (D : Nat → Int), (∀ x, 0 ≤ D x) ∧ (∀ (k : Nat) (z : Int), (nerZ ls s most)[k]? = some z → ∃ (p : Nat) (x : ByteArray), z = (p : Int) ∧ p < ls.length ∧ ls[p]? = some x ∧ D p = dis x s x.size s.size ∧ D p ≤ most ∧ wordB x = true ∧ wordB s = true) ∧
      (∀ (i j : Nat) (a b : Nat), (nerZ ls s most)[i]? = some (a : Int) → (nerZ ls s most)[j]? = some (b : Int) → i < j → D a ≤ D b) := by
  have hh := codeW_zero (nerC_zero h)
  have hm := nerC_most h
  have hsw : wordB s = true := by rw [← wordsB_one]; exact hh.2.1
  rw [nerZ_yes h]
  refine ⟨dstK ls s, dstK_nn ls s, fun k z hz => ?_, fun i j a b ha hb hij => ?_⟩
  · obtain ⟨p, rfl, hp⟩ := natI_at hz
    have h1 := nearS_mem (List.mem_of_getElem? hp)
    obtain ⟨x, hx⟩ : ∃ x, ls[p]? = some x := ⟨ls[p]'h1.1, List.getElem?_eq_getElem _⟩
    exact ⟨p, x, rfl, h1.1, hx, dstK_at hx, by have := h1.2; omega, wordsB_mem hh.1 (List.mem_of_getElem? hx), hsw⟩
  · obtain ⟨p, e1, hp⟩ := natI_at ha
    obtain ⟨q, e2, hq⟩ := natI_at hb
    obtain rfl : a = p := by omega
    obtain rfl : b = q := by omega
    exact near_pair hp hq hij

set_option maxHeartbeats 8000000 in
set_option maxRecDepth 100000 in
theorem wNearest (A : Option Addr) (len cap : Nat) (w : World) (hl : len ≤ maxLen) (h : CodeIn w A len) :
    Calls Try.prog 3 #[.slice A len cap] w fun e w' => e = .returned (.bool true) ∧ Below w.heap.size w w' := by
  have CB := Lib.hid (cBig A len cap w hl)
  by_cases h1 : 4096 < len
  · rw [decide_eq_true h1] at CB
    clear h h1 hl
    go_enter Try.func3, Try.ntmps3
    go_wp2_with fail
    refine CB.out.mono ?_
    rintro e w' ⟨rfl, rfl⟩
    go_wp2_with fail
    go_ret
    exact ⟨rfl, Below.refl _ _⟩
  rw [decide_eq_false h1] at CB
  have hlen : len ≤ 4096 := by omega
  have C_0 := Lib.hid (Sp.code h)
  have B_0 := Lib.hid (Sp.from_ w)
  clear h h1 hl
  go_enter Try.func3, Try.ntmps3
  go_wp2_with fail
  refine CB.out.mono ?_
  rintro e w0 ⟨rfl, rfl⟩
  clear CB
  have CX1 := Lib.hid (cDrawNear A len cap w (by omega) C_0.out.here)
  go_wp2_with fail
  refine CX1.out.mono ?_
  rintro e w1 ⟨A1, n1, c1, ls, s, most, rfl, hT, hn1, hz, hs, hm0, hm1, g1⟩
  clear CX1
  have C_1 := Lib.hid (C_0.out.next g1)
  have B_1 := Lib.hid (B_0.out.next g1)
  clear g1 C_0 B_0
  have T_1 := Lib.hid (Sp.text hT)
  clear hT
  have HZ := Lib.hid hz
  clear hz
  obtain ⟨zs, hzs⟩ : ∃ zs, zs = nerZ ls s most := ⟨_, rfl⟩
  obtain ⟨bad, hbad⟩ : ∃ b, b = nerC ls s most := ⟨_, rfl⟩
  have HNI : Hid (∀ W, TextAt W W.heap.size A1 n1 ls → Calls Try.prog 13 #[.slice A1 n1 c1, .string s, .int .i64 most] W (OutI zs bad W)) := Lib.hid (fun W hT => by
    rw [hzs, hbad]; exact cNear_impl A1 n1 c1 ls s most W (by unfold maxLen; omega) (fun x hx => by have := HZ.out x hx; unfold maxLen; omega) hT (by unfold maxLen; omega))
  have HNS : Hid (∀ W, TextAt W W.heap.size A1 n1 ls → Calls Try.prog 14 #[.slice A1 n1 c1, .string s, .int .i64 most] W (OutI zs bad W)) := Lib.hid (fun W hT => by
    rw [hzs, hbad]; exact cNear_spec A1 n1 c1 ls s most W (by unfold maxLen; omega) (fun x hx => by have := HZ.out x hx; unfold maxLen; omega) hT (by unfold maxLen; omega))
  have hzl : zs.length ≤ 20 := by rw [hzs]; exact nerZ_len _ _ _
  have HF : Hid (bad = 0 → ∃ (D : Nat → Int), (∀ x, 0 ≤ D x) ∧ (∀ (k : Nat) (z : Int), zs[k]? = some z → ∃ (p : Nat) (x : ByteArray), z = (p : Int) ∧ p < ls.length ∧ ls[p]? = some x ∧ D p = dis x s x.size s.size ∧ D p ≤ most ∧ wordB x = true ∧ wordB s = true) ∧ (∀ (i j : Nat) (a b : Nat), zs[i]? = some (a : Int) → zs[j]? = some (b : Int) → i < j → D a ≤ D b)) := Lib.hid (fun h0 => by rw [hzs]; exact near_facts (by rw [← hbad]; exact h0))
  clear hzs hbad
  have CX2 := Lib.hid (HNI.out w1 T_1.out.here)
  go_wp2_with fail
  refine CX2.out.mono ?_
  rintro e w2 ⟨A2, n2, c2, rfl, hN, g2⟩
  clear CX2
  have C_2 := Lib.hid (C_1.out.next g2)
  have B_2 := Lib.hid (B_1.out.next g2)
  have T_2 := Lib.hid (T_1.out.next g2)
  clear g2 C_1 B_1 T_1
  have U_2 := Lib.hid (Sp.num (own_num hN))
  clear hN
  have CX3 := Lib.hid (HNS.out w2 T_2.out.here)
  go_wp2_with fail
  refine CX3.out.mono ?_
  rintro e w3 ⟨A3, n3, c3, rfl, hN, g3⟩
  clear CX3
  have C_3 := Lib.hid (C_2.out.next g3)
  have B_3 := Lib.hid (B_2.out.next g3)
  have T_3 := Lib.hid (T_2.out.next g3)
  have U_3 := Lib.hid (U_2.out.next g3)
  clear g3 C_2 B_2 T_2 U_2
  have V_3 := Lib.hid (Sp.num (own_num hN))
  clear hN HNI HNS
  have CX4 := Lib.hid (cDrawSharp A len cap w3 (by omega) C_3.out.here)
  go_wp2_with fail
  refine CX4.out.mono ?_
  rintro e w4 ⟨g, na, ca, xs, gb, nb, cb, ys, rfl, hX, hna, hY, hnb, g4⟩
  clear CX4
  clear C_3
  have B_4 := Lib.hid (B_3.out.next g4)
  have T_4 := Lib.hid (T_3.out.next g4)
  have U_4 := Lib.hid (U_3.out.next g4)
  have V_4 := Lib.hid (V_3.out.next g4)
  clear g4 B_3 T_3 U_3 V_3
  have X_4 := Lib.hid (Sp.num hX)
  have Y_4 := Lib.hid (Sp.num hY)
  clear hX hY
  obtain ⟨sh, hsh⟩ : ∃ sh, sh = shpZ xs ys := ⟨_, rfl⟩
  obtain ⟨one, hone⟩ : ∃ o, o = shpC xs ys := ⟨_, rfl⟩
  have HSI : Hid (∀ W, NumAt W W.heap.size (some ⟨g, 0, none⟩) na xs → NumAt W W.heap.size (some ⟨gb, 0, none⟩) nb ys → Calls Try.prog 16 #[.slice (some ⟨g, 0, none⟩) na ca, .slice (some ⟨gb, 0, none⟩) nb cb] W fun e w' => e = .returned (.tuple #[.bool sh, .int .i64 one]) ∧ Below W.heap.size W w') := Lib.hid (fun W hX hY => by
    rw [hsh, hone]; exact cSharp_impl (some ⟨g, 0, none⟩) (some ⟨gb, 0, none⟩) na ca nb cb xs ys W (by unfold maxLen; omega) hX (by unfold maxLen; omega) hY)
  have HSS : Hid (∀ W, NumAt W W.heap.size (some ⟨g, 0, none⟩) na xs → NumAt W W.heap.size (some ⟨gb, 0, none⟩) nb ys → Calls Try.prog 17 #[.slice (some ⟨g, 0, none⟩) na ca, .slice (some ⟨gb, 0, none⟩) nb cb] W fun e w' => e = .returned (.tuple #[.bool sh, .int .i64 one]) ∧ Below W.heap.size W w') := Lib.hid (fun W hX hY => by
    rw [hsh, hone]; exact cSharp_spec (some ⟨g, 0, none⟩) (some ⟨gb, 0, none⟩) na ca nb cb xs ys W (by unfold maxLen; omega) hX (by unfold maxLen; omega) hY)
  have HSO : Hid (one = 0 → ∀ W, NumAt W W.heap.size (some ⟨g, 0, none⟩) na xs → Calls Try.prog 16 #[.slice (some ⟨g, 0, none⟩) na ca, .slice (some ⟨g, 0, none⟩) na ca] W fun e w' => e = .returned (.tuple #[.bool true, .int .i64 0]) ∧ Below W.heap.size W w') := Lib.hid (fun h0 W hX => by
    have h2 := shp_self (xs := xs) (ys := ys) (by rw [← hone]; exact h0)
    have h3 := cSharp_impl (some ⟨g, 0, none⟩) (some ⟨g, 0, none⟩) na ca na ca xs xs W (by unfold maxLen; omega) hX (by unfold maxLen; omega) hX
    rw [h2.1, h2.2] at h3; exact h3)
  clear hsh hone
  have CX5 := Lib.hid (HSI.out w4 X_4.out.here Y_4.out.here)
  go_wp2_with fail
  refine CX5.out.mono ?_
  rintro e w5 ⟨rfl, g5⟩
  clear CX5
  have B_5 := Lib.hid (B_4.out.next g5)
  have T_5 := Lib.hid (T_4.out.next g5)
  have U_5 := Lib.hid (U_4.out.next g5)
  have V_5 := Lib.hid (V_4.out.next g5)
  have X_5 := Lib.hid (X_4.out.next g5)
  have Y_5 := Lib.hid (Y_4.out.next g5)
  clear g5 B_4 T_4 U_4 V_4 X_4 Y_4
  have CX6 := Lib.hid (HSS.out w5 X_5.out.here Y_5.out.here)
  go_wp2_with fail
  refine CX6.out.mono ?_
  rintro e w6 ⟨rfl, g6⟩
  clear CX6
  clear Y_5
  have B_6 := Lib.hid (B_5.out.next g6)
  have T_6 := Lib.hid (T_5.out.next g6)
  have U_6 := Lib.hid (U_5.out.next g6)
  have V_6 := Lib.hid (V_5.out.next g6)
  have X_6 := Lib.hid (X_5.out.next g6)
  clear g6 B_5 T_5 U_5 V_5 X_5
  clear HSI HSS
  have hbb : (bad != bad) = false := by simp
  have hoo : (one != one) = false := by simp
  have hss : (sh != sh) = false := by simp
  have hn2 : n2 ≤ 20 := by have h1 := U_6.out.here.1; omega
  have CX7 := Lib.hid (likeN A2 A3 n2 n3 c2 c3 zs w6 (by omega) U_6.out.here V_6.out.here)
  go_wp2_with fail
  refine CX7.out.mono ?_
  rintro e w7 ⟨rfl, g7⟩
  clear CX7
  clear V_6
  have B_7 := Lib.hid (B_6.out.next g7)
  have T_7 := Lib.hid (T_6.out.next g7)
  have U_7 := Lib.hid (U_6.out.next g7)
  have X_7 := Lib.hid (X_6.out.next g7)
  clear g7 B_6 T_6 U_6 X_6
  by_cases ho0 : one = 0
  · have hon : (one == 0) = true := by simp [ho0]
    have CX8 := Lib.hid (HSO.out ho0 w7 X_7.out.here)
    go_wp2_with fail
    refine CX8.out.mono ?_
    rintro e w8 ⟨rfl, g8⟩
    clear CX8
    clear X_7
    have B_8 := Lib.hid (B_7.out.next g8)
    have T_8 := Lib.hid (T_7.out.next g8)
    have U_8 := Lib.hid (U_7.out.next g8)
    clear g8 B_7 T_7 U_7
    clear HSO ho0
    by_cases hb0 : bad = 0
    · have hbn : (bad != 0) = false := by simp [hb0]
      obtain ⟨D, hD0, hDF, hDP⟩ := HF.out hb0
      have HDF := Lib.hid hDF
      have HDP := Lib.hid hDP
      have HD0 := Lib.hid hD0
      have HST : Hid (∀ (j : Nat) (a : Nat), 0 ≤ j → zs[j]? = some (a : Int) → (-1 : Int) ≤ D a) := Lib.hid (fun j a _ _ => by have := hD0 a; omega)
      have HUL := Lib.hid U_8.out.here.1
      have HW0 := Lib.hid (Below.refl w8.heap.size w8)
      clear hD0 hDF hDP hb0
      go_wp2_with fail
      go_loopw [18, 19, 20, 21] (fun p i q r wr => ∃ (k : Nat) (v : Int) (y z : Value), k ≤ n2 ∧ i = .int .i64 k ∧ p = .int .i64 v ∧ y = q ∧ z = r ∧ Hid (∀ (j : Nat) (a : Nat), k ≤ j → zs[j]? = some (a : Int) → v ≤ D a) ∧ Hid (Below w8.heap.size w8 wr)) (fun _ i _ _ _ => n2 - (intOf i).toNat)
      case atStart => exact ⟨0, -1, _, _, Nat.zero_le _, rfl, rfl, rfl, rfl, HST, HW0⟩
      case round =>
        clear HST HW0
        obtain ⟨k, v, y, z, hk, rfl, rfl, rfl, rfl, HV, HW⟩ := hrel
        by_cases hlt : k < n2
        · have hkl : k < zs.length := by have := HUL.out; omega
          obtain ⟨z0, hz0⟩ : ∃ z0, zs[k]? = some z0 := ⟨zs[k]'hkl, List.getElem?_eq_getElem _⟩
          obtain ⟨p, x, rfl, hp, hx, hd, hdm, hxw, hsw⟩ := HDF.out k z0 hz0
          have hUw := U_8.out.2 wr (Like.of_below HW.out U_8.out.1)
          have hTw := T_8.out.2 wr (Like.of_below HW.out T_8.out.1)
          obtain ⟨b2, o2, hA2, hb2, hc2⟩ := hUw.2 (by omega)
          subst hA2
          have kn := hc2 k _ hz0
          obtain ⟨b1, o1, hA1, hb1, kl⟩ := hTw.row2 hx
          subst hA1
          have hvd : v ≤ D p := HV.out k p (Nat.le_refl _) hz0
          have HV2 : Hid (∀ (j : Nat) (a : Nat), k + 1 ≤ j → zs[j]? = some (a : Int) → D p ≤ D a) := Lib.hid (fun j a hj ha => HDP.out k j p a hz0 ha (by omega))
          have h3 := word_size x hxw
          have h4 := word_size s hsw
          have CE := Lib.hid (cEd_impl_yes x s wr (by unfold maxLen; omega) (by unfold maxLen; omega) h3.2 h4.2 (by unfold twoE; rw [hxw, hsw]; rfl))
          rw [← hd] at CE
          obtain ⟨d, hdd⟩ : ∃ d, d = D p := ⟨_, rfl⟩
          rw [← hdd] at CE hvd hdm HV2
          have hp1 : (p : Int) < (n1 : Int) := by have hN1 := hTw.1; omega
          have hp0 : (0 : Int) ≤ (p : Int) := by omega
          have e1 : ¬ d < v := by omega
          have e2 : ¬ most < d := by omega
          clear hx hz0 hUw hTw hc2 hd hdd hxw hsw h3 h4
          go_wp2_with fail
          refine CE.out.mono ?_
          rintro e w20 ⟨rfl, g20⟩
          have HW2 := Lib.hid (HW.out.trans (g20.mono HW.out.size))
          clear g20 CE
          go_wp2_with fail
          go_roundw
          case rel => exact ⟨k + 1, d, _, _, by omega, by go_num, rfl, rfl, rfl, HV2, HW2⟩
          case measure => simp [intOf]; omega
        · have HB9 := Lib.hid (B_8.out.here.trans (HW.out.mono B_8.out.1))
          go_wp2_with fail
          go_ret
          exact ⟨rfl, HB9.out⟩
    · have hbn : (bad != 0) = true := by simp [hb0]
      have HB9 := Lib.hid B_8.out.here
      clear hb0
      go_wp2_with fail
      go_ret
      exact ⟨rfl, HB9.out⟩
  · have hon : (one == 0) = false := by simp [ho0]
    clear HSO ho0
    by_cases hb0 : bad = 0
    · have hbn : (bad != 0) = false := by simp [hb0]
      obtain ⟨D, hD0, hDF, hDP⟩ := HF.out hb0
      have HDF := Lib.hid hDF
      have HDP := Lib.hid hDP
      have HD0 := Lib.hid hD0
      have HST : Hid (∀ (j : Nat) (a : Nat), 0 ≤ j → zs[j]? = some (a : Int) → (-1 : Int) ≤ D a) := Lib.hid (fun j a _ _ => by have := hD0 a; omega)
      have HUL := Lib.hid U_7.out.here.1
      have HW0 := Lib.hid (Below.refl w7.heap.size w7)
      clear hD0 hDF hDP hb0
      go_wp2_with fail
      go_loopw [18, 19, 20, 21] (fun p i q r wr => ∃ (k : Nat) (v : Int) (y z : Value), k ≤ n2 ∧ i = .int .i64 k ∧ p = .int .i64 v ∧ y = q ∧ z = r ∧ Hid (∀ (j : Nat) (a : Nat), k ≤ j → zs[j]? = some (a : Int) → v ≤ D a) ∧ Hid (Below w7.heap.size w7 wr)) (fun _ i _ _ _ => n2 - (intOf i).toNat)
      case atStart => exact ⟨0, -1, _, _, Nat.zero_le _, rfl, rfl, rfl, rfl, HST, HW0⟩
      case round =>
        clear HST HW0
        obtain ⟨k, v, y, z, hk, rfl, rfl, rfl, rfl, HV, HW⟩ := hrel
        by_cases hlt : k < n2
        · have hkl : k < zs.length := by have := HUL.out; omega
          obtain ⟨z0, hz0⟩ : ∃ z0, zs[k]? = some z0 := ⟨zs[k]'hkl, List.getElem?_eq_getElem _⟩
          obtain ⟨p, x, rfl, hp, hx, hd, hdm, hxw, hsw⟩ := HDF.out k z0 hz0
          have hUw := U_7.out.2 wr (Like.of_below HW.out U_7.out.1)
          have hTw := T_7.out.2 wr (Like.of_below HW.out T_7.out.1)
          obtain ⟨b2, o2, hA2, hb2, hc2⟩ := hUw.2 (by omega)
          subst hA2
          have kn := hc2 k _ hz0
          obtain ⟨b1, o1, hA1, hb1, kl⟩ := hTw.row2 hx
          subst hA1
          have hvd : v ≤ D p := HV.out k p (Nat.le_refl _) hz0
          have HV2 : Hid (∀ (j : Nat) (a : Nat), k + 1 ≤ j → zs[j]? = some (a : Int) → D p ≤ D a) := Lib.hid (fun j a hj ha => HDP.out k j p a hz0 ha (by omega))
          have h3 := word_size x hxw
          have h4 := word_size s hsw
          have CE := Lib.hid (cEd_impl_yes x s wr (by unfold maxLen; omega) (by unfold maxLen; omega) h3.2 h4.2 (by unfold twoE; rw [hxw, hsw]; rfl))
          rw [← hd] at CE
          obtain ⟨d, hdd⟩ : ∃ d, d = D p := ⟨_, rfl⟩
          rw [← hdd] at CE hvd hdm HV2
          have hp1 : (p : Int) < (n1 : Int) := by have hN1 := hTw.1; omega
          have hp0 : (0 : Int) ≤ (p : Int) := by omega
          have e1 : ¬ d < v := by omega
          have e2 : ¬ most < d := by omega
          clear hx hz0 hUw hTw hc2 hd hdd hxw hsw h3 h4
          go_wp2_with fail
          refine CE.out.mono ?_
          rintro e w20 ⟨rfl, g20⟩
          have HW2 := Lib.hid (HW.out.trans (g20.mono HW.out.size))
          clear g20 CE
          go_wp2_with fail
          go_roundw
          case rel => exact ⟨k + 1, d, _, _, by omega, by go_num, rfl, rfl, rfl, HV2, HW2⟩
          case measure => simp [intOf]; omega
        · have HB9 := Lib.hid (B_7.out.here.trans (HW.out.mono B_7.out.1))
          go_wp2_with fail
          go_ret
          exact ⟨rfl, HB9.out⟩
    · have hbn : (bad != 0) = true := by simp [hb0]
      have HB9 := Lib.hid B_7.out.here
      clear hb0
      go_wp2_with fail
      go_ret
      exact ⟨rfl, HB9.out⟩
end Go.Proofs.Ytmbahbnadkmnkaa
