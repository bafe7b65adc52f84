/-
  The law of phrases: its call answers true.
-/
import Derived.Test.YtdbbolnmcbhflaaDoorPhMath
namespace Go.Proofs.YtdbbolnmcbhflaaDoor
set_option linter.unusedVariables false
open Go.RowKit

theorem bne_self_int (a : Int) : (a != a) = false := bne_self_eq_false' a
theorem bne_self_list (a : List UInt8) : (a != a) = false := by simp
theorem phraseC_bool (s : ByteArray) : (phraseC s == 0) = phraseB s := by unfold phraseC; cases phraseB s <;> rfl
theorem phraseC_bne (s : ByteArray) : (phraseC s != 0) = !phraseB s := by unfold phraseC; cases phraseB s <;> rfl
theorem joinC_bool (xs : List ByteArray) : (joinC xs == 0) = joinG xs := by unfold joinC; cases joinG xs <;> rfl
theorem repC_bool (a old word : ByteArray) : (repC a old word == 0) = repH a old word := by
  unfold repC; cases repH a old word
  · cases repG a old word <;> rfl
  · rfl
theorem joinT_phrase {xs : List ByteArray} (h : joinG xs = true) : phraseB (joinT xs) = true ∧ phraseL (joinT xs) = xs ∧ (joinT xs).size ≤ 520 := by
  rw [(joinT_yes h).1]
  refine ⟨joinG_phrase h, ?_, joinG_size h⟩
  unfold phraseL; rw [if_pos (joinG_phrase h), joinG_back h]
theorem repT_phrase {a old word : ByteArray} (h : repH a old word = true) : phraseB (repT a old word) = true ∧ phraseL (repT a old word) = swapL old word (spaceB a) ∧ (repT a old word).size ≤ 520 := by
  rw [(repT_yes h).1]
  have hj := repH_join h
  refine ⟨joinG_phrase hj, ?_, joinG_size hj⟩
  unfold phraseL; rw [if_pos (joinG_phrase hj), joinG_back hj]
theorem words_again {s : ByteArray} (h : phraseB s = true) : joinG (phraseL s) = true ∧ joinT (phraseL s) = s := by
  have e : phraseL s = spaceB s := by unfold phraseL; rw [if_pos h]
  rw [e]
  exact ⟨phrase_joinG h, by rw [(joinT_yes (phrase_joinG h)).1]; exact join_spaceB s⟩
theorem phraseL_size (s : ByteArray) : ∀ x ∈ phraseL s, x.size ≤ maxLen := by
  intro x hx
  unfold phraseL at hx
  split at hx
  · rename_i h
    have := (word_size x (words_mem _ (phraseB_parts s h).1 x hx)).2
    unfold maxLen; omega
  · simp at hx
theorem text_at {w : World} {B : Nat} {A : Option Addr} {n : Nat} {xs ys : List ByteArray} (h : TextAt w B A n xs) (e : xs = ys) : TextAt w B A n ys := e ▸ h

set_option maxHeartbeats 8000000 in
set_option maxRecDepth 100000 in
theorem wPhrases (A : Option Addr) (len cap : Nat) (w : World) (hlen : len ≤ maxLen) (h : CodeIn w A len) (hsh : w.ShapedOpen Tryd.prog) :
    Calls Tryd.prog 3 #[.slice A len cap] w fun e w' => e = .returned (.bool true) ∧ Below w.heap.size w w' := by
  have CB := Lib.hid (cBig A len cap w hlen)
  by_cases hbig : 4096 < len
  · rw [decide_eq_true hbig] at CB
    clear h hbig hsh
    go_enter Tryd.func3, Tryd.ntmps3
    go_wp2_with fail
    refine CB.out.mono ?_
    rintro e w' ⟨rfl, rfl⟩
    go_wp2_with fail
    go_ret
    exact ⟨rfl, Below.refl _ _⟩
  rw [decide_eq_false hbig] at CB
  have hlen1 : len ≤ 1048576 := by omega
  have H := Lib.hid h
  have HSH := Lib.hid hsh
  have C1 := Lib.hid (cDrawWords A len cap w hlen1 h)
  clear h hbig hsh
  go_enter Tryd.func3, Tryd.ntmps3
  go_wp2_with fail
  refine CB.out.mono ?_
  rintro e w' ⟨rfl, rfl⟩
  go_wp2_with fail
  refine C1.out.mono ?_
  rintro e w1 ⟨s, hs, rfl, hb1⟩
  have B1 := Lib.hid hb1
  have hs1 : s.size ≤ 1073741824 := by omega
  have C2 := Lib.hid (tWordsOf_impl s w1 hs1 (shaped_below HSH.out hb1))
  clear hb1 C1 CB
  go_wp2_with fail
  refine C2.out.mono ?_
  rintro e w2 ⟨A1, n1, c1, hn1, hc1, rfl, hT1, hb2⟩
  have HT1 := Lib.hid hT1
  have B2 := Lib.hid (B1.out.trans (hb2.mono B1.out.size))
  have C3 := Lib.hid (tWordsOf_spec s w2 hs1)
  clear hT1 hb2 C2
  go_wp2_with fail
  refine C3.out.mono ?_
  rintro e w3 ⟨A2, n2, c2, hn2, hc2, rfl, hT2, hb3⟩
  have HT1 := Lib.hid ((HT1.out.below hb3 (Nat.le_refl _)).more hb3.size)
  have HT2 := Lib.hid hT2
  have hn12 : n2 = n1 := hT2.1.trans HT1.out.1.symm
  subst hn12
  have B3 := Lib.hid (B2.out.trans (hb3.mono B2.out.size))
  have C4 := Lib.hid (cDrawJP A len cap w3 hlen1 (H.out.below B3.out))
  clear hT2 hb3 C3
  go_wp2_with fail
  refine C4.out.mono ?_
  rintro e w4 ⟨A3, n3, c3, xs, hn3, hc3, hxs, rfl, hT3, hb4⟩
  have HT1 := Lib.hid ((HT1.out.below hb4 (Nat.le_refl _)).more hb4.size)
  have HT2 := Lib.hid ((HT2.out.below hb4 (Nat.le_refl _)).more hb4.size)
  have HT3 := Lib.hid hT3
  have HX := Lib.hid hxs
  have B4 := Lib.hid (B3.out.trans (hb4.mono B3.out.size))
  have C5 := Lib.hid (tJP_impl A3 n3 c3 xs w4 (by omega) hc3 hxs hT3)
  clear hT3 hb4 C4 hxs
  go_wp2_with fail
  refine C5.out.mono ?_
  rintro e w5 ⟨rfl, hb5⟩
  have HT1 := Lib.hid ((HT1.out.below hb5 (Nat.le_refl _)).more hb5.size)
  have HT2 := Lib.hid ((HT2.out.below hb5 (Nat.le_refl _)).more hb5.size)
  have HT3 := Lib.hid ((HT3.out.below hb5 (Nat.le_refl _)).more hb5.size)
  have B5 := Lib.hid (B4.out.trans (hb5.mono B4.out.size))
  have C6 := Lib.hid (tJP_spec A3 n3 c3 xs w5 (by omega) HX.out HT3.out)
  clear hb5 C5
  go_wp2_with fail
  refine C6.out.mono ?_
  rintro e w' ⟨rfl, rfl⟩
  have C7 := Lib.hid (cDrawRep A len cap w5 hlen1 (H.out.below B5.out))
  clear C6
  go_wp2_with fail
  refine C7.out.mono ?_
  rintro e w6 ⟨a, old, word, ha, ho, hw, rfl, hb6⟩
  have HT1 := Lib.hid ((HT1.out.below hb6 (Nat.le_refl _)).more hb6.size)
  have HT2 := Lib.hid ((HT2.out.below hb6 (Nat.le_refl _)).more hb6.size)
  have HT3 := Lib.hid ((HT3.out.below hb6 (Nat.le_refl _)).more hb6.size)
  have B6 := Lib.hid (B5.out.trans (hb6.mono B5.out.size))
  have ha1 : a.size ≤ 1073741824 := by omega
  have ho1 : old.size ≤ maxLen := by unfold maxLen; omega
  have hw1 : word.size ≤ maxLen := by unfold maxLen; omega
  have C8 := Lib.hid (tRep_impl a old word w6 ha1 (shaped_below HSH.out B6.out) ho1 hw1)
  clear hb6 C7
  go_wp2_with fail
  refine C8.out.mono ?_
  rintro e w7 ⟨rfl, hb7⟩
  have HT1 := Lib.hid ((HT1.out.below hb7 (Nat.le_refl _)).more hb7.size)
  have HT2 := Lib.hid ((HT2.out.below hb7 (Nat.le_refl _)).more hb7.size)
  have HT3 := Lib.hid ((HT3.out.below hb7 (Nat.le_refl _)).more hb7.size)
  have B7 := Lib.hid (B6.out.trans (hb7.mono B6.out.size))
  have C9 := Lib.hid (tRep_spec a old word w7 ha1 ho1 hw1)
  clear hb7 C8
  go_wp2_with fail
  refine C9.out.mono ?_
  rintro e w8 ⟨rfl, hb8⟩
  have HT1 := Lib.hid ((HT1.out.below hb8 (Nat.le_refl _)).more hb8.size)
  have HT2 := Lib.hid ((HT2.out.below hb8 (Nat.le_refl _)).more hb8.size)
  have HT3 := Lib.hid ((HT3.out.below hb8 (Nat.le_refl _)).more hb8.size)
  have B8 := Lib.hid (B7.out.trans (hb8.mono B7.out.size))
  have C10 := Lib.hid (cDrawIW A len cap w8 hlen1 (H.out.below B8.out))
  clear hb8 C9
  go_wp2_with fail
  refine C10.out.mono ?_
  rintro e w9 ⟨x, hx, rfl, hb9⟩
  have HT1 := Lib.hid ((HT1.out.below hb9 (Nat.le_refl _)).more hb9.size)
  have HT2 := Lib.hid ((HT2.out.below hb9 (Nat.le_refl _)).more hb9.size)
  have HT3 := Lib.hid ((HT3.out.below hb9 (Nat.le_refl _)).more hb9.size)
  have B9 := Lib.hid (B8.out.trans (hb9.mono B8.out.size))
  have hx1 : x.size ≤ maxLen := by unfold maxLen; omega
  have C11 := Lib.hid (tLikeAny A1 A2 c1 c2 n2 _ _ _ w9 (by omega) HT1.out HT2.out)
  clear hb9 C10
  have z1 := bne_self_int (phraseC s)
  have z2 := bne_self_int (joinC xs)
  have z3 := bne_self_int (repC a old word)
  have z4 := bne_self_list (joinT xs).toList
  have z5 := bne_self_list (repT a old word).toList
  have z6 : (phraseC s == 0) = phraseB s := phraseC_bool s
  go_wp2_with fail
  refine C11.out.mono ?_
  rintro e w' ⟨rfl, m9, rfl⟩
  have HT1 := Lib.hid (HT1.out.drewN m9)
  have HT3 := Lib.hid (HT3.out.drewN m9)
  have B9 := Lib.hid (below_drw B9.out m9)
  have C12 := Lib.hid (fun W => cIsWord_impl x W hx1)
  have C13 := Lib.hid (fun W => cIsWord_spec x W hx1)
  have C14 := Lib.hid (fun W (hW : Below w.heap.size w W) => cIsPhrase_impl s W hs1 (shaped_below HSH.out hW))
  have z7 : ∀ b : Bool, (b != b) = false := fun b => bne_self_eq_false' b
  clear C11 HT2
  go_wp2_with (first
    | (go_at_call 18; refine (C12.out _).mono ?_; rintro e w' ⟨rfl, rfl⟩)
    | (go_at_call 19; refine (C13.out _).mono ?_; rintro e w' ⟨rfl, rfl⟩))
  have zj := joinC_bool xs
  have zr := repC_bool a old word
  refine (C14.out _ B9.out).mono ?_
  rintro e w10 ⟨rfl, hb10⟩
  have HT1 := Lib.hid ((HT1.out.below hb10 (Nat.le_refl _)).more hb10.size)
  have HT3 := Lib.hid ((HT3.out.below hb10 (Nat.le_refl _)).more hb10.size)
  have B10 := Lib.hid (B9.out.trans (hb10.mono B9.out.size))
  clear hb10 C12 C13 C14
  cases hj : joinG xs
  all_goals
    have HJ := Lib.hid hj
    rw [hj] at zj
    clear hj
    cases hr : repH a old word
  all_goals
    have HR := Lib.hid hr
    rw [hr] at zr
    clear hr
    cases hp : phraseB s
  all_goals
    have HP := Lib.hid hp
    rw [hp] at z6
    clear hp
    go_wp2_with fail
    first
      | (have hJ : joinG xs = false := HJ.out
         have B11 := B10
         clear hJ HT3)
      | (have hJ : joinG xs = true := HJ.out
         obtain ⟨p1, p2, p3⟩ := joinT_phrase hJ
         have zq : (phraseC (joinT xs) != 0) = false := by rw [phraseC_bne, p1]; rfl
         have CJ := Lib.hid (tWordsOf_impl (joinT xs) w10 (by omega) (shaped_below HSH.out B10.out))
         have P2 := Lib.hid p2
         clear p1 p2 p3 hJ
         refine CJ.out.mono ?_
         rintro e w11 ⟨A4, n4, c4, hn4, hc4, rfl, hT4, hb11⟩
         have HT4 := Lib.hid hT4
         have HT1 := Lib.hid ((HT1.out.below hb11 (Nat.le_refl _)).more hb11.size)
         have HT3 := Lib.hid ((HT3.out.below hb11 (Nat.le_refl _)).more hb11.size)
         have B11 := Lib.hid (B10.out.trans (hb11.mono B10.out.size))
         have hn43 : n4 = n3 := by
           have h1 := HT4.out.1
           have h2 := HT3.out.1
           rw [P2.out] at h1
           omega
         subst hn43
         have CL := Lib.hid (tLikeAny A4 A3 c4 c3 n4 _ _ _ w11 (by omega) (text_at HT4.out P2.out) HT3.out)
         clear hT4 hb11 CJ
         go_wp2_with fail
         refine CL.out.mono ?_
         rintro e w' ⟨rfl, m11, rfl⟩
         have HT1 := Lib.hid (HT1.out.drewN m11)
         have B11 := Lib.hid (below_drw B11.out m11)
         clear CL HT4 HT3
         go_wp2_with fail)
    first
      | (have hR : repH a old word = false := HR.out
         have B12 := B11
         clear hR)
      | (have hR : repH a old word = true := HR.out
         obtain ⟨p1, p2, p3⟩ := repT_phrase hR
         have zq2 : (phraseC (repT a old word) != 0) = false := by rw [phraseC_bne, p1]; rfl
         have CJ := Lib.hid (tWordsOf_impl (repT a old word) _ (by omega) (shaped_below HSH.out B11.out))
         have P2 := Lib.hid p2
         have hlp := joinG_parts (repH_join hR)
         clear p1 p2 p3 hR
         refine CJ.out.mono ?_
         rintro e w12 ⟨A5, n5, c5, hn5, hc5, rfl, hT5, hb12⟩
         have HT5 := Lib.hid (text_at hT5 P2.out)
         have HT1 := Lib.hid ((HT1.out.below hb12 (Nat.le_refl _)).more hb12.size)
         have B12 := Lib.hid (B11.out.trans (hb12.mono B11.out.size))
         have hp5 : 0 < n5 := by have := HT5.out.1; omega
         have CH1 := Lib.hid (tHas word A5 n5 c5 _ w12 (by omega) hp5 HT5.out)
         have CH2 := Lib.hid (tHas old A5 n5 c5 _ w12 (by omega) hp5 HT5.out)
         rw [swap_has (repH_parts HR.out).2] at CH1
         clear hT5 hb12 CJ hlp
         by_cases heq : old = word
         all_goals
           first
             | (have zo : (old.toList == word.toList) = true := eqB_yes old word heq
                clear heq
                go_wp2_with fail
                refine CH1.out.mono ?_
                rintro e w' ⟨rfl, rfl⟩
                go_wp2_with fail)
             | (have zo : (old.toList == word.toList) = false := eqB_no old word heq
                rw [swap_hasnt heq] at CH2
                clear heq
                go_wp2_with fail
                refine CH1.out.mono ?_
                rintro e w' ⟨rfl, rfl⟩
                go_wp2_with fail
                refine CH2.out.mono ?_
                rintro e w' ⟨rfl, rfl⟩
                go_wp2_with fail))
    all_goals
      first
        | (have hP : phraseB s = false := HP.out
           go_ret
           exact ⟨rfl, B12.out⟩)
        | (have hP : phraseB s = true := HP.out
           obtain ⟨p1, p2⟩ := words_again hP
           have zs1 : (joinC (phraseL s) == 0) = true := by rw [joinC_bool, p1]
           have zs2 : ((joinT (phraseL s)).toList == s.toList) = true := by rw [p2]; simp
           have CP := Lib.hid (tJP_impl A1 n2 c1 (phraseL s) _ (by omega) hc1 (phraseL_size s) HT1.out)
           clear p1 p2 hP
           refine CP.out.mono ?_
           rintro e w13 ⟨rfl, hb13⟩
           have B13 := Lib.hid (B12.out.trans (hb13.mono B12.out.size))
           clear hb13 CP
           go_wp2_with fail
           go_ret
           exact ⟨rfl, B13.out⟩)
end Go.Proofs.YtdbbolnmcbhflaaDoor
