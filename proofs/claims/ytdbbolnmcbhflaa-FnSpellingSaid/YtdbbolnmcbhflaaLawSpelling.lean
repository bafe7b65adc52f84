/-
  The law of spellings: its call answers true.
-/
import Derived.Test.YtdbbolnmcbhflaaDrawIsSp
import Derived.Test.YtdbbolnmcbhflaaSpMath
import Derived.Test.YtdbbolnmcbhflaaLawCan
import Derived.Test.YtdbbolnmcbhflaaLawCsp
import Derived.Test.YtdbbolnmcbhflaaLawIsSp
namespace Go.Proofs.Ytdbbolnmcbhflaa
set_option linter.unusedVariables false
open Go.RowKit

set_option maxHeartbeats 1000000 in
set_option maxRecDepth 100000 in
/-- Two slices with the same numbers are equal. -/
theorem tLikeI (A A' : Option Addr) (cap cap' n B C : Nat) (xs : List Int) (w : World) (hbig : n ≤ 1048576) (h1 : NumAt w B A n xs) (h2 : NumAt w C A' n xs) :
    Calls Try.prog 26 #[.slice A n cap, .slice A' n cap'] w fun e w' => e = .returned (.bool true) ∧ ∃ m, w' = w.drewN m := by
  rcases Nat.eq_zero_or_pos n with rfl | hp
  · go_enter Try.func26, Try.ntmps26
    go_wp2
    refine wp_loop_rounds 1 ?_
    rw [rounds_succ]
    go_wp2
    go_ret
    exact ⟨rfl, 0, rfl⟩
  obtain ⟨b, o, rfl, hb, hc⟩ := h1.2 hp
  obtain ⟨b', o', rfl, hb', hc'⟩ := h2.2 hp
  have HN := Lib.hid h1.1
  have H1 := Lib.hid hc
  have H2 := Lib.hid hc'
  clear h1 h2 hc hc' hb hb'
  go_enter Try.func26, Try.ntmps26
  go_wp2
  go_loopw [5] (fun i wr => ∃ j m : Nat, j ≤ n ∧ i = .int .i64 j ∧ wr = w.drewN m) (fun i _ => n - (intOf i).toNat)
  case atStart => exact ⟨0, 0, Nat.zero_le _, rfl, rfl⟩
  case round =>
    obtain ⟨j, m, hj, rfl, rfl⟩ := hrel
    by_cases hlt : j < n
    · obtain ⟨x, hx⟩ : ∃ x, xs[j]? = some x := ⟨xs[j]'(by have := HN.out; omega), List.getElem?_eq_getElem _⟩
      have c1 : w.cell? ⟨b, o + j, none⟩ = some (.int .i64 x) := H1.out j x hx
      have c2 : w.cell? ⟨b', o' + j, none⟩ = some (.int .i64 x) := H2.out j x hx
      clear hx
      have e1 : (0 : Int) ≤ (j : Int) := Int.natCast_nonneg _
      have e2 : (j : Int) < (n : Int) := by omega
      go_wp2
      go_quiet (fail)
      go_wp2
      go_roundw
      case rel => exact ⟨j + 1, _, by omega, by go_num, rfl⟩
      case measure => simp [intOf]; omega
    · go_wp2
      go_ret
      exact ⟨rfl, m, rfl⟩

theorem cBig (A : Option Addr) (len cap : Nat) (w : World) (h : len ≤ maxLen) :
    Calls Try.prog 5 #[.slice A len cap] w fun e w' => e = .returned (.bool (decide (4096 < len))) ∧ w = w' := by
  unfold maxLen at h
  by_cases h1 : 4096 < len
  · have hd : decide ((4096 : Int) < (len : Int)) = true := decide_eq_true (by omega)
    have HD := Lib.hid (decide_eq_true h1)
    clear h1
    go_enter Try.func5, Try.ntmps5
    go_wp2
    go_ret
    exact ⟨ret_bool HD.out.symm, rfl⟩
  · have hd : decide ((4096 : Int) < (len : Int)) = false := decide_eq_false (by omega)
    have HD := Lib.hid (decide_eq_false h1)
    clear h1
    go_enter Try.func5, Try.ntmps5
    go_wp2
    go_ret
    exact ⟨ret_bool HD.out.symm, rfl⟩

/-- What the calls answer at a list of letters and a text, in the three cases. -/
def Answers (xs : List ByteArray) (t : ByteArray) (code : Int) (b1 : Bool) (c1 : Int) (b2 c2 : Int) : Prop :=
  codeW xs t = code ∧ canV xs t = .tuple #[.bool b1, .int .i64 c1] ∧ cspV xs t = .tuple #[.int .i64 b2, .int .i64 c2]
theorem answers (xs : List ByteArray) (t : ByteArray) :
    (∃ b2, Answers xs t 1 false 1 b2 1) ∨ (∃ b2, Answers xs t 4 false 0 b2 0) ∨
    (∃ b2, Answers xs t 0 true 0 b2 0 ∧ 0 < b2 ∧ joinLV xs (zsW xs t) = .tuple #[.string t, .int .i64 0] ∧ isSpV xs (zsW xs t) = .tuple #[.bool true, .int .i64 0]) := by
  cases hok : okW xs t
  · exact .inl ⟨0, by unfold codeW; rw [hok]; rfl, by unfold canV; rw [hok]; rfl, by unfold cspV; rw [hok]; rfl⟩
  · cases hsp : spellsB xs t
    · exact .inr (.inl ⟨_, by unfold codeW; rw [hok, hsp]; rfl, by unfold canV; rw [hok, hsp]; rfl, by unfold cspV; rw [hok]; rfl⟩)
    · have ha : alphaB xs = true := by unfold okW at hok; rw [Bool.and_eq_true] at hok; exact hok.1
      have hw : wordB t = true := by unfold okW at hok; rw [Bool.and_eq_true] at hok; exact hok.2
      obtain ⟨g1, g2⟩ := spell_back xs t.size t (Nat.le_refl _) hsp
      have hl : (idxL xs t).length ≤ 16 := by have := idx_len xs t; have := (word_size t hw).2; omega
      have hz : zsW xs t = idxL xs t := by unfold zsW; rw [hok, hsp]; rfl
      refine .inr (.inr ⟨ways xs t t.size, ⟨by unfold codeW; rw [hok, hsp]; rfl, by unfold canV; rw [hok, hsp]; rfl, by unfold cspV; rw [hok]; rfl⟩, by have := ways_pos xs t (alpha_good xs ha) hsp; omega, ?_, ?_⟩)
      · rw [hz, joinLV_yes xs _ ha hl g1, g2]
      · rw [hz]; unfold isSpV; rw [if_pos ha, if_pos ⟨hl, g1⟩, g2, hw, hsp]; simp

set_option maxHeartbeats 4000000 in
set_option maxRecDepth 100000 in
theorem wSpelling (A : Option Addr) (len cap : Nat) (w : World) (hlen : len ≤ maxLen) (h : CodeIn w A len) :
    Calls Try.prog 4 #[.slice A len cap] w fun e w' => e = .returned (.bool true) ∧ Below w.heap.size w w' := by
  have CB := Lib.hid (cBig A len cap w hlen)
  by_cases hbig : 4096 < len
  · rw [decide_eq_true hbig] at CB
    clear h hbig
    go_enter Try.func4, Try.ntmps4
    go_wp2_with fail
    refine CB.out.mono ?_
    rintro e w' ⟨rfl, rfl⟩
    go_wp2_with fail
    go_ret
    exact ⟨rfl, Below.refl _ _⟩
  rw [decide_eq_false hbig] at CB
  have hlen1 : len ≤ 1048576 := by omega
  have H := Lib.hid h
  have C1 := Lib.hid (cDrawSpell A len cap w hlen1 h)
  clear h hbig
  go_enter Try.func4, Try.ntmps4
  go_wp2_with fail
  refine CB.out.mono ?_
  rintro e w' ⟨rfl, rfl⟩
  go_wp2_with fail
  refine C1.out.mono ?_
  rintro e w1 ⟨v, n, xs, t, hn, ht, rfl, hT, hb1⟩
  obtain ⟨A1, c1, hv1⟩ := hT.form
  subst hv1
  have HT := Lib.hid hT.textAt
  have HX := Lib.hid (show ∀ x ∈ xs, x.size ≤ maxLen from fun x hx => by have := hT.2 x hx; unfold maxLen; omega)
  have hn1 : n ≤ 1048576 := by omega
  have ht1 : t.size ≤ 1048576 := by omega
  have B1 := Lib.hid hb1
  clear hT hb1 C1 CB
  obtain ⟨code, b1, k1, b2, k2, HA, HREST⟩ : ∃ code b1 k1 b2 k2, Hid (Answers xs t code b1 k1 b2 k2) ∧
      Hid ((code = 1 ∧ b1 = false ∧ k1 = 1) ∨ (code = 4 ∧ b1 = false ∧ k1 = 0) ∨ (code = 0 ∧ b1 = true ∧ k1 = 0 ∧ 0 < b2 ∧ joinLV xs (zsW xs t) = .tuple #[.string t, .int .i64 0] ∧ isSpV xs (zsW xs t) = .tuple #[.bool true, .int .i64 0])) := by
    rcases answers xs t with ⟨b2, h1⟩ | ⟨b2, h1⟩ | ⟨b2, h1, h2, h3, h4⟩
    · exact ⟨_, _, _, _, _, Lib.hid h1, Lib.hid (.inl ⟨rfl, rfl, rfl⟩)⟩
    · exact ⟨_, _, _, _, _, Lib.hid h1, Lib.hid (.inr (.inl ⟨rfl, rfl, rfl⟩))⟩
    · exact ⟨_, _, _, _, _, Lib.hid h1, Lib.hid (.inr (.inr ⟨rfl, rfl, rfl, h2, h3, h4⟩))⟩
  obtain ⟨zs, hzs⟩ : ∃ zs, zs = zsW xs t := ⟨_, rfl⟩
  have hzl : zs.length ≤ 64 := by rw [hzs]; have := zsW_len xs t; omega
  rw [← hzs] at HREST
  have CI := Lib.hid (tSW_impl A1 n c1 xs t w1 hn1 HX.out HT.out ht1)
  rw [← hzs, HA.out.1] at CI
  have HZ := Lib.hid hzs
  have HZL := Lib.hid hzl
  clear hzs hzl
  go_wp2_with fail
  refine (show Calls Try.prog _ _ _ (SWOut zs code w1) from CI.out).mono ?_
  rintro e w2 ⟨A2, n2, c2, rfl, hO2, hb2⟩
  have R2 := Lib.hid (RowI.of hO2)
  have hn2 : n2 ≤ 64 := by have h1 := hO2.1; rw [intV_len] at h1; have := HZL.out; omega
  have D2 := Lib.hid hb2
  clear hO2 hb2 CI
  have CS := Lib.hid (tSW_spec A1 n c1 xs t w2 hn1 HX.out ((HT.out.below D2.out (Nat.le_refl _)).more D2.out.size) ht1)
  rw [← HZ.out, HA.out.1] at CS
  go_wp2_with fail
  refine (show Calls Try.prog _ _ _ (SWOut zs code w2) from CS.out).mono ?_
  rintro e w3 ⟨A3, n3, c3, rfl, hO3, hb3⟩
  obtain rfl : n3 = n2 := by rw [← RowI.len (RowI.of hO3), ← RowI.len R2.out]
  have R3 := Lib.hid (RowI.of hO3)
  have D3 := Lib.hid (D2.out.trans (hb3.mono D2.out.size))
  have E3 := Lib.hid hb3
  clear hO3 hb3 CS
  have CC := Lib.hid (tCan A1 n c1 xs t w3 hn1 HX.out ((HT.out.below D3.out (Nat.le_refl _)).more D3.out.size) ht1)
  rw [HA.out.2.1] at CC
  go_wp2_with fail
  refine CC.out.mono ?_
  rintro e w4 ⟨rfl, hb4⟩
  have D4 := Lib.hid (D3.out.trans (hb4.mono D3.out.size))
  have E4 := Lib.hid (E3.out.trans (hb4.mono E3.out.size))
  have R34 := Lib.hid (R3.out.below hb4)
  clear hb4 CC
  have CD := Lib.hid (tCan_spec A1 n c1 xs t w4 hn1 HX.out ((HT.out.below D4.out (Nat.le_refl _)).more D4.out.size) ht1)
  rw [HA.out.2.1] at CD
  go_wp2_with fail
  refine CD.out.mono ?_
  rintro e w5 ⟨rfl, hb5⟩
  have D5 := Lib.hid (D4.out.trans (hb5.mono D4.out.size))
  have E5 := Lib.hid (E4.out.trans (hb5.mono E4.out.size))
  have R35 := Lib.hid (R34.out.below hb5)
  clear hb5 CD
  have CE := Lib.hid (tCount A1 n c1 xs t w5 hn1 HX.out ((HT.out.below D5.out (Nat.le_refl _)).more D5.out.size) ht1)
  rw [HA.out.2.2] at CE
  go_wp2_with fail
  refine CE.out.mono ?_
  rintro e w6 ⟨rfl, hb6⟩
  have D6 := Lib.hid (D5.out.trans (hb6.mono D5.out.size))
  have E6 := Lib.hid (E5.out.trans (hb6.mono E5.out.size))
  have R36 := Lib.hid (R35.out.below hb6)
  clear hb6 CE
  have CF := Lib.hid (tCount_spec A1 n c1 xs t w6 hn1 HX.out ((HT.out.below D6.out (Nat.le_refl _)).more D6.out.size) ht1)
  rw [HA.out.2.2] at CF
  go_wp2_with fail
  refine CF.out.mono ?_
  rintro e w7 ⟨rfl, hb7⟩
  have D7 := Lib.hid (D6.out.trans (hb7.mono D6.out.size))
  have E7 := Lib.hid (E6.out.trans (hb7.mono E6.out.size))
  have R37 := Lib.hid (R36.out.below hb7)
  clear hb7 CF
  have B7 := Lib.hid (B1.out.trans (D7.out.mono B1.out.size))
  have CG := Lib.hid (cDrawJoin A len cap w7 hlen1 (H.out.below B7.out))
  go_wp2_with fail
  refine CG.out.mono ?_
  rintro e w8 ⟨va, vb, na, nb, xa, zb, hna, hnb, rfl, hTa, hZb, hb8⟩
  obtain ⟨Aa, ca, hva⟩ := hTa.form
  obtain ⟨Ab, cb, hvb⟩ := int_form hZb
  subst hva
  subst hvb
  have HTa := Lib.hid hTa.textAt
  have HXa := Lib.hid (show ∀ x ∈ xa, x.size ≤ maxLen from fun x hx => by have := hTa.2 x hx; unfold maxLen; omega)
  have HZb := Lib.hid (numAt_row (RowI.of hZb))
  have D8 := Lib.hid (D7.out.trans (hb8.mono D7.out.size))
  have E8 := Lib.hid (E7.out.trans (hb8.mono E7.out.size))
  have R38 := Lib.hid (R37.out.below hb8)
  clear hTa hZb hb8 CG
  have hna1 : na ≤ 1048576 := by omega
  have hnb1 : nb ≤ 1048576 := by omega
  obtain ⟨j3, k3, hv3⟩ := joinLV_form xa zb
  have CH := Lib.hid (tJoinL Aa na ca xa Ab nb cb zb w8 hna1 HXa.out HTa.out hnb1 HZb.out)
  rw [hv3] at CH
  have HV3 := Lib.hid hv3
  clear hv3
  go_wp2_with fail
  refine CH.out.mono ?_
  rintro e w9 ⟨rfl, hb9⟩
  have D9 := Lib.hid (D8.out.trans (hb9.mono D8.out.size))
  have E9 := Lib.hid (E8.out.trans (hb9.mono E8.out.size))
  have R39 := Lib.hid (R38.out.below hb9)
  have CJ := Lib.hid (tJoinLS Aa na ca _ xa Ab nb cb _ zb w9 hna1 HXa.out (HTa.out.below hb9 (Nat.le_refl _)) hnb1 (HZb.out.below hb9 (Nat.le_refl _)))
  rw [HV3.out] at CJ
  clear hb9 CH
  go_wp2_with fail
  refine CJ.out.mono ?_
  rintro e w' ⟨rfl, rfl⟩
  have B9 := Lib.hid (B1.out.trans (D9.out.mono B1.out.size))
  have CK := Lib.hid (cDrawIsSp A len cap w9 hlen1 (H.out.below B9.out))
  clear CJ HTa HXa HZb HV3
  go_wp2_with fail
  refine CK.out.mono ?_
  rintro e w10 ⟨vx, vy, nx, ny, xx, zy, hnx, hny, rfl, hTx, hZy, hb10⟩
  obtain ⟨Ax, cx, hvx⟩ := hTx.form
  obtain ⟨Ay, cy, hvy⟩ := int_form hZy
  subst hvx
  subst hvy
  have HTx := Lib.hid hTx.textAt
  have HXx := Lib.hid (show ∀ x ∈ xx, x.size ≤ maxLen from fun x hx => by have := hTx.2 x hx; unfold maxLen; omega)
  have HZy := Lib.hid (numAt_row (RowI.of hZy))
  have D10 := Lib.hid (D9.out.trans (hb10.mono D9.out.size))
  have E10 := Lib.hid (E9.out.trans (hb10.mono E9.out.size))
  have R310 := Lib.hid (R39.out.below hb10)
  clear hTx hZy hb10 CK
  have hnx1 : nx ≤ 1048576 := by omega
  have hny1 : ny ≤ 1048576 := by omega
  obtain ⟨j4, k4, hv4⟩ := isSpV_form xx zy
  have CL := Lib.hid (tIsSp Ax nx cx xx Ay ny cy zy w10 hnx1 HXx.out HTx.out hny1 HZy.out)
  rw [hv4] at CL
  have HV4 := Lib.hid hv4
  clear hv4
  go_wp2_with fail
  refine CL.out.mono ?_
  rintro e w11 ⟨rfl, hb11⟩
  have D11 := Lib.hid (D10.out.trans (hb11.mono D10.out.size))
  have E11 := Lib.hid (E10.out.trans (hb11.mono E10.out.size))
  have R311 := Lib.hid (R310.out.below hb11)
  have CM := Lib.hid (tIsSp_spec Ax nx cx xx Ay ny cy zy w11 hnx1 HXx.out ((HTx.out.below hb11 (Nat.le_refl _)).more hb11.size) hny1 ((HZy.out.below hb11 (Nat.le_refl _)).more hb11.size))
  rw [HV4.out] at CM
  clear hb11 CL
  go_wp2_with fail
  refine CM.out.mono ?_
  rintro e w12 ⟨rfl, hb12⟩
  have D12 := Lib.hid (D11.out.trans (hb12.mono D11.out.size))
  have E12 := Lib.hid (E11.out.trans (hb12.mono E11.out.size))
  have R312 := Lib.hid (R311.out.below hb12)
  have R212 := Lib.hid (R2.out.below E12.out)
  clear hb12 CM HTx HXx HZy HV4
  have CN := Lib.hid (tLikeI A2 A3 c2 c3 n3 _ _ zs w12 (by omega) (numAt_row R212.out) (numAt_row R312.out))
  have d1 : (code != code) = false := by simp
  have d2 : (k1 != k1) = false := by simp
  have d3 : (b1 != b1) = false := by simp
  have d4 : (k2 != k2) = false := by simp
  have d5 : (b2 != b2) = false := by simp
  have d6 : (k3 != k3) = false := by simp
  have d7 : (j3.toList != j3.toList) = false := by simp
  have d8 : (k4 != k4) = false := by simp
  have d9 : (j4 != j4) = false := by simp
  have B12 := Lib.hid (B1.out.trans (D12.out.mono B1.out.size))
  clear HA
  rcases HREST.out with ⟨rfl, rfl, rfl⟩ | ⟨rfl, rfl, rfl⟩ | ⟨rfl, rfl, rfl, hb2, hj, hi⟩
  · clear HREST
    go_wp2_with fail
    refine CN.out.mono ?_
    rintro e w' ⟨rfl, m, rfl⟩
    go_wp2_with fail
    go_ret
    exact ⟨rfl, below_drN B12.out m⟩
  · clear HREST
    go_wp2_with fail
    refine CN.out.mono ?_
    rintro e w' ⟨rfl, m, rfl⟩
    go_wp2_with fail
    go_ret
    exact ⟨rfl, below_drN B12.out m⟩
  · have HJ := Lib.hid hj
    have HI := Lib.hid hi
    have z1 : decide ((0 : Int) < b2) = true := decide_eq_true hb2
    have z2 : (t.toList == t.toList) = true := by simp
    clear HREST hj hi
    go_wp2_with fail
    refine CN.out.mono ?_
    rintro e w' ⟨rfl, m, rfl⟩
    have CP := Lib.hid (tJoinL A1 n c1 xs A2 n3 c2 zs (w12.drewN m) hn1 HX.out ((HT.out.below (below_drN D12.out m) (Nat.le_refl _)).more D12.out.size) (by omega) (numAt_row R212.out))
    rw [HJ.out] at CP
    go_wp2_with fail
    refine CP.out.mono ?_
    rintro e w13 ⟨rfl, hb13⟩
    have B13 := Lib.hid ((below_drN B12.out m).trans (hb13.mono B12.out.size))
    have D13 := Lib.hid ((below_drN D12.out m).trans (hb13.mono D12.out.size))
    have R213 := Lib.hid (RowI.below (w := w12.drewN m) R212.out hb13)
    clear hb13 CP
    have CQ := Lib.hid (tIsSp A1 n c1 xs A2 n3 c2 zs w13 hn1 HX.out ((HT.out.below D13.out (Nat.le_refl _)).more D13.out.size) (by omega) (numAt_row R213.out))
    rw [HI.out] at CQ
    go_wp2_with fail
    refine CQ.out.mono ?_
    rintro e w14 ⟨rfl, hb14⟩
    have B14 := Lib.hid (B13.out.trans (hb14.mono B13.out.size))
    clear hb14 CQ
    go_wp2_with fail
    go_ret
    exact ⟨rfl, B14.out⟩
end Go.Proofs.Ytdbbolnmcbhflaa
