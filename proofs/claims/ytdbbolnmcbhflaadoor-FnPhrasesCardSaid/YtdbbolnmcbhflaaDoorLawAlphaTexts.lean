/-
  The law of texts of alphabets: its call answers true.
-/
import Derived.Test.YtdbbolnmcbhflaaDoorDrawAT
import Derived.Test.YtdbbolnmcbhflaaDoorAlphaTextD
import Derived.Test.YtdbbolnmcbhflaaDoorLawReadAl
import Derived.Test.YtdbbolnmcbhflaaDoorBlank
namespace Go.Proofs.YtdbbolnmcbhflaaDoor
set_option linter.unusedVariables false
open Go.RowKit

theorem cBig (A : Option Addr) (len cap : Nat) (w : World) (h : len ≤ maxLen) :
    Calls Tryd.prog 6 #[.slice A len cap] w fun e w' => e = .returned (.bool (decide (4096 < len))) ∧ w = w' := by
  unfold maxLen at h
  by_cases h1 : 4096 < len
  · have hd : decide ((4096 : Int) < (len : Int)) = true := decide_eq_true (by omega)
    have HD := Lib.hid (decide_eq_true h1)
    clear h1
    go_enter Tryd.func6, Tryd.ntmps6
    go_wp2
    go_ret
    exact ⟨ret_bool HD.out.symm, rfl⟩
  · have hd : decide ((4096 : Int) < (len : Int)) = false := decide_eq_false (by omega)
    have HD := Lib.hid (decide_eq_false h1)
    clear h1
    go_enter Tryd.func6, Tryd.ntmps6
    go_wp2
    go_ret
    exact ⟨ret_bool HD.out.symm, rfl⟩

theorem space_joinA (xs : List ByteArray) (h : alphaB xs = true) : spaceB (joinB xs) = xs := by
  have hl := (alpha_len xs h).1
  cases xs with
  | nil => simp at hl
  | cons x l =>
    refine bl_join x l (fun y hy => low_no y ?_)
    have := good_mem _ (alpha_good _ h) y hy
    unfold letterB at this
    rw [Bool.and_eq_true] at this
    exact this.2
theorem join_spaceB (s : ByteArray) : joinB (spaceB s) = s := join_bl s.size s (Nat.le_refl _)
theorem capLe {w : World} {b g n c : Nat} {xs : List Value} (h : w.ownsRow b 9 1 (.slice (some ⟨g, 0, none⟩) n c) n xs) : n ≤ c := by
  rcases h.2 with ⟨h1, _⟩ | ⟨g1, cap1, cur, h1, h2, h3, h4, _⟩
  · cases h1
  · injection h1 with e1 e2 e3; omega
theorem rowText {w : World} {b g c : Nat} {xs : List ByteArray} (hgl : g < w.heap.size) (h : w.ownsRow b 9 1 (.slice (some ⟨g, 0, none⟩) xs.length c) xs.length (strV xs)) : TextAt w w.heap.size (some ⟨g, 0, none⟩) xs.length xs :=
  ⟨rfl, fun _ => ⟨g, 0, rfl, hgl, fun j x hx => by rw [Nat.zero_add]; exact (h.cellAt j (by have := (List.getElem?_eq_some_iff.1 hx).1; omega)).trans (strV_at _ _ _ hx)⟩⟩
theorem below_drw {B : Nat} {a w : World} (h : Below B a w) (n : Nat) : Below B a (w.drewN n) := ⟨h.os, h.tape, h.output, h.size, h.block⟩
theorem tLikeNil (w : World) : Calls Tryd.prog 17 #[.slice none 0 0, .slice none 0 0] w fun e w' => e = .returned (.bool true) ∧ w = w' := cLikeT_none none none 0 0 w
set_option maxHeartbeats 4000000 in
set_option maxRecDepth 100000 in
theorem wAlphaTexts (A : Option Addr) (len cap : Nat) (w : World) (hlen : len ≤ maxLen) (h : CodeIn w A len) (hsh : w.ShapedOpen Tryd.prog) :
    Calls Tryd.prog 5 #[.slice A len cap] w fun e w' => e = .returned (.bool true) ∧ Below w.heap.size w w' := by
  have CB := Lib.hid (cBig A len cap w hlen)
  by_cases hbig : 4096 < len
  · rw [decide_eq_true hbig] at CB
    clear h hbig hsh
    go_enter Tryd.func5, Tryd.ntmps5
    go_wp2_with fail
    refine CB.out.mono ?_
    rintro e w' ⟨rfl, rfl⟩
    go_wp2_with fail
    go_ret
    exact ⟨rfl, Below.refl _ _⟩
  rw [decide_eq_false hbig] at CB
  have hlen1 : len ≤ 1048576 := by omega
  have H := Lib.hid h
  have HSH := Lib.hid hsh
  have C1 := Lib.hid (cDrawAT A len cap w hlen1 h)
  clear h hbig hsh
  go_enter Tryd.func5, Tryd.ntmps5
  go_wp2_with fail
  refine CB.out.mono ?_
  rintro e w' ⟨rfl, rfl⟩
  go_wp2_with fail
  refine C1.out.mono ?_
  rintro e w1 ⟨A1, n, c1, xs, hn, hnc, hxs, rfl, hT, hb1⟩
  have HT := Lib.hid hT
  have HX := Lib.hid hxs
  have B1 := Lib.hid hb1
  have hn1 : n ≤ 1048576 := by omega
  clear hT hxs hb1 C1 CB
  have CI := Lib.hid (tAlphaText A1 n c1 xs w1 hn1 hnc HX.out HT.out)
  cases ha : alphaB xs
  all_goals
    first | rw [alphaTextV_no _ ha] at CI | rw [alphaTextV_yes _ ha] at CI
    have HA := Lib.hid ha
    have z1 : ((joinB xs).toList != (joinB xs).toList) = false := by simp
    clear ha
    go_wp2_with fail
    refine CI.out.mono ?_
    rintro e w2 ⟨rfl, hb2⟩
    have D2 := Lib.hid hb2
    have CS := Lib.hid (tAlphaText_spec A1 n c1 _ xs w2 hn1 HX.out (HT.out.below hb2 (Nat.le_refl _)))
    first | rw [alphaTextV_no _ HA.out] at CS | rw [alphaTextV_yes _ HA.out] at CS
    clear hb2 CI
    go_wp2_with fail
    refine CS.out.mono ?_
    rintro e w' ⟨rfl, rfl⟩
    have B2 := Lib.hid (B1.out.trans (D2.out.mono B1.out.size))
    have CD := Lib.hid (cDrawRA A len cap w2 hlen1 (H.out.below B2.out))
    clear CS
    go_wp2_with fail
    refine CD.out.mono ?_
    rintro e w3 ⟨s, hs, rfl, hb3⟩
    have D3 := Lib.hid (D2.out.trans (hb3.mono D2.out.size))
    have B3 := Lib.hid (B2.out.trans (hb3.mono B2.out.size))
    have hs1 : s.size ≤ 1073741824 := by omega
    clear hb3 CD
    have CJ := Lib.hid (tIsAlpha A1 n c1 xs)
    cases hp : alphaB (spaceB s)
    · have CR := Lib.hid (cReadAl_no s w3 hs1 (shaped_below HSH.out B3.out) hp)
      have CR2 := Lib.hid (fun W => cReadAl_spec_no s W hs1 hp)
      clear hp
      go_wp2_with fail
      refine CR.out.mono ?_
      rintro e w4 ⟨rfl, hb4⟩
      have D4 := Lib.hid (D3.out.trans (hb4.mono D3.out.size))
      have B4 := Lib.hid (B3.out.trans (hb4.mono B3.out.size))
      clear hb4 CR
      go_wp2_with fail
      refine (CR2.out w4).mono ?_
      rintro e w5 ⟨rfl, hb5⟩
      have D5 := Lib.hid (D4.out.trans (hb5.mono D4.out.size))
      have B5 := Lib.hid (B4.out.trans (hb5.mono B4.out.size))
      have CK := Lib.hid (CJ.out w5 hn1 HX.out ((HT.out.below D5.out (Nat.le_refl _)).more D5.out.size))
      rw [HA.out] at CK
      clear hb5 CR2
      go_wp2_with fail
      refine (tLikeNil _).mono ?_
      rintro e w' ⟨rfl, rfl⟩
      go_wp2_with fail
      refine CK.out.mono ?_
      rintro e w6 ⟨rfl, hb6⟩
      have D6 := Lib.hid (D5.out.trans (hb6.mono D5.out.size))
      have B6 := Lib.hid (B5.out.trans (hb6.mono B5.out.size))
      clear hb6 CK
      first
        | (have hno : alphaB xs = false := HA.out
           go_wp2_with fail
           go_ret
           exact ⟨rfl, B6.out⟩)
        | (have hyes : alphaB xs = true := HA.out
           have hj : (joinB xs).size ≤ 2600 := joinA_size xs hyes
           have hsj := space_joinA xs hyes
           have CU := Lib.hid (cReadAl_yes (joinB xs) w6 (by omega) (shaped_below HSH.out B6.out) (by rw [hsj]; exact hyes))
           rw [hsj] at CU
           unfold ReadOut at CU
           have HNL := Lib.hid HT.out.1
           clear hj hsj hyes
           go_wp2_with fail
           refine CU.out.mono ?_
           rintro e w8 ⟨gu, cu, rfl, hgu1, hgu2, hou, hb8⟩
           have B8 := Lib.hid (B6.out.trans (hb8.mono B6.out.size))
           have D8 := Lib.hid (D6.out.trans (hb8.mono D6.out.size))
           have HU := Lib.hid (rowText hgu2 hou)
           have CX := Lib.hid (tLikeAny (some ⟨gu, 0, none⟩) A1 cu c1 n _ _ xs w8 hn1 (by rw [HNL.out]; exact HU.out) (HT.out.below D8.out (Nat.le_refl _)))
           rw [← HNL.out]
           clear hb8 hou CU
           go_wp2_with fail
           refine CX.out.mono ?_
           rintro e w' ⟨rfl, m8, rfl⟩
           go_wp2_with fail
           go_ret
           exact ⟨rfl, below_drw B8.out m8⟩)
    · have CR := Lib.hid (cReadAl_yes s w3 hs1 (shaped_below HSH.out B3.out) hp)
      have CR2 := Lib.hid (fun W => cReadAl_spec_yes s W hs1 hp)
      have hl40 : (spaceB s).length ≤ 40 := (alpha_len _ hp).2
      have hyx : ∀ x ∈ spaceB s, x.size ≤ maxLen := fun x hx => by have := (alpha_size _ hp x hx).2; unfold maxLen; omega
      have HYV := Lib.hid (show alphaTextV (spaceB s) = .tuple #[.string s, .int .i64 0] from by rw [alphaTextV_yes _ hp, join_spaceB])
      have HYX := Lib.hid hyx
      have HL := Lib.hid hl40
      have zs1 : (s.toList != s.toList) = false := by simp
      clear hp hyx hl40
      obtain ⟨ys, hys⟩ : ∃ ys, ys = spaceB s := ⟨_, rfl⟩
      rw [← hys] at CR CR2 HYV HYX HL
      unfold ReadOut at CR CR2
      clear hys
      go_wp2_with fail
      refine CR.out.mono ?_
      rintro e w4 ⟨gy, cy, rfl, hgy1, hgy2, hoy, hb4⟩
      have D4 := Lib.hid (D3.out.trans (hb4.mono D3.out.size))
      have B4 := Lib.hid (B3.out.trans (hb4.mono B3.out.size))
      have HY := Lib.hid (rowText hgy2 hoy)
      have hcy := capLe hoy
      clear hb4 CR hoy
      go_wp2_with fail
      refine (CR2.out w4).mono ?_
      rintro e w5 ⟨gz, cz, rfl, hgz1, hgz2, hoz, hb5⟩
      have D5 := Lib.hid (D4.out.trans (hb5.mono D4.out.size))
      have B5 := Lib.hid (B4.out.trans (hb5.mono B4.out.size))
      have HZ := Lib.hid (rowText hgz2 hoz)
      have HY5 := Lib.hid ((HY.out.below hb5 (Nat.le_refl _)).more hb5.size)
      have CQ := Lib.hid (tLikeAny (some ⟨gy, 0, none⟩) (some ⟨gz, 0, none⟩) cy cz ys.length _ _ ys w5 (by have := HL.out; omega) HY5.out HZ.out)
      clear hb5 CR2 hoz HY
      go_wp2_with fail
      refine CQ.out.mono ?_
      rintro e w' ⟨rfl, m, rfl⟩
      have CK := Lib.hid (CJ.out (w5.drewN m) hn1 HX.out ((HT.out.below (below_drw D5.out m) (Nat.le_refl _)).more (below_drw D5.out m).size))
      rw [HA.out] at CK
      go_wp2_with fail
      refine CK.out.mono ?_
      rintro e w6 ⟨rfl, hb6⟩
      have D6 := Lib.hid ((below_drw D5.out m).trans (hb6.mono D5.out.size))
      have B6 := Lib.hid ((below_drw B5.out m).trans (hb6.mono B5.out.size))
      have HY6 := Lib.hid (((HY5.out.below (below_drw (Below.refl _ _) m) (Nat.le_refl _)).below hb6 (Nat.le_refl _)).more hb6.size)
      clear hb6 CK
      have CT := Lib.hid (tAlphaText (some ⟨gy, 0, none⟩) ys.length cy ys w6 (by have := HL.out; omega) hcy HYX.out HY6.out)
      rw [HYV.out] at CT
      go_wp2_with fail
      refine CT.out.mono ?_
      rintro e w7 ⟨rfl, hb7⟩
      have D7 := Lib.hid (D6.out.trans (hb7.mono D6.out.size))
      have B7 := Lib.hid (B6.out.trans (hb7.mono B6.out.size))
      clear hb7 CT HY6 HY5 HZ
      first
        | (have hno : alphaB xs = false := HA.out
           go_wp2_with fail
           go_ret
           exact ⟨rfl, B7.out⟩)
        | (have hyes : alphaB xs = true := HA.out
           have hj : (joinB xs).size ≤ 2600 := joinA_size xs hyes
           have hsj := space_joinA xs hyes
           have CU := Lib.hid (cReadAl_yes (joinB xs) w7 (by omega) (shaped_below HSH.out B7.out) (by rw [hsj]; exact hyes))
           rw [hsj] at CU
           unfold ReadOut at CU
           have HNL := Lib.hid HT.out.1
           clear hj hsj hyes
           go_wp2_with fail
           refine CU.out.mono ?_
           rintro e w8 ⟨gu, cu, rfl, hgu1, hgu2, hou, hb8⟩
           have B8 := Lib.hid (B7.out.trans (hb8.mono B7.out.size))
           have D8 := Lib.hid (D7.out.trans (hb8.mono D7.out.size))
           have HU := Lib.hid (rowText hgu2 hou)
           have CX := Lib.hid (tLikeAny (some ⟨gu, 0, none⟩) A1 cu c1 n _ _ xs w8 hn1 (by rw [HNL.out]; exact HU.out) (HT.out.below D8.out (Nat.le_refl _)))
           rw [← HNL.out]
           clear hb8 hou CU
           go_wp2_with fail
           refine CX.out.mono ?_
           rintro e w' ⟨rfl, m8, rfl⟩
           go_wp2_with fail
           go_ret
           exact ⟨rfl, below_drw B8.out m8⟩)
end Go.Proofs.YtdbbolnmcbhflaaDoor
