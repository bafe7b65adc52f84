/-
  The law of rules' texts: both packages answer alike, and each answer is recovered from the other.
-/
import Derived.Test.YtnfdbpfegmodcaaDoorDrawRR
import Derived.Test.YtnfdbpfegmodcaaDoorRuleLaw
import Derived.Test.YtnfdbpfegmodcaaDoorCodeArg
import Derived.Test.YtnfdbpfegmodcaaDoorBig
import Derived.Test.YtnfdbpfegmodcaaDoorErrs
namespace Go.Proofs.YtnfdbpfegmodcaaDoor
set_option linter.unusedVariables false
open Go.RowKit

theorem rt_form (r : Ru) : ∃ (tt : ByteArray) (c : Int), rtV r = .tuple #[.string tt, .int .i64 c] ∧ tt.size ≤ 1000 ∧ ((ruleB r = true ∧ c = 0 ∧ tt = textR r) ∨ (ruleB r = false ∧ c = 1)) := by
  unfold rtV
  cases h : ruleB r
  · exact ⟨_, _, rfl, by decide, .inr ⟨rfl, rfl⟩⟩
  · exact ⟨_, _, rfl, text_size h, .inl ⟨rfl, rfl, rfl⟩⟩
theorem readC_two (s : ByteArray) (o : Option (List Int)) : readC s o = 0 ∨ readC s o = 6 := by
  unfold readC
  split
  · exact .inl rfl
  · exact .inr rfl
theorem readR_len {s : ByteArray} {o : Option (List Int)} (ho : RNum 43 3 (cutA s) o) : (readR s o).1.length ≤ 3 := by
  unfold readR
  split
  · rename_i hg
    obtain ⟨vs, hv, _⟩ := good_facts hg ho
    rw [hv] at ho ⊢
    exact ho.2.1
  · exact Nat.zero_le _
theorem readR_size {s : ByteArray} {o : Option (List Int)} : (readR s o).2.size ≤ 5 ∨ True := .inr trivial
theorem RowI.numL {w : World} {A : Option Addr} {n c : Nat} {xs : List Int} (h : RowI w A n c xs) : NumAt w w.heap.size A n xs :=
  ⟨h.len.symm, fun hp => by
    obtain ⟨g, e1, h1, h2⟩ := h.cells hp
    exact ⟨g, 0, e1, h1, fun j x hx => by rw [Nat.zero_add]; exact h2 j x hx⟩⟩
theorem lt_pow {w : World} (h : Laid w) : 1 < w.heap.size := World.block_lt_of_cell? w _ (h.1.cell pow_named 0 (by rw [Lib.pow10Tab_length]; omega))

set_option maxHeartbeats 1000000 in
theorem cLikeR (A A' : Option Addr) (cap cap' n : Nat) (r : Ru) (w : World) (hbig : n ≤ 1099511627776) (h : RowI w A n cap r.1) (h' : RowI w A' n cap' r.1) :
    Calls Tryd.prog 11 #[.agg #[.slice A n cap, .string r.2], .agg #[.slice A' n cap', .string r.2]] w fun e w' => e = .returned (.bool true) ∧ Below w.heap.size w w' := by
  obtain ⟨xs, s⟩ := r
  simp only at h h' ⊢
  have B0 : Below w.heap.size w ((w.alloc (.cells #[.slice A n cap, .string s] 26)).alloc (.cells #[.slice A' n cap', .string s] 26)) := ((Below.refl _ _).alloc (Nat.le_refl _) _).alloc (by simp) _
  have K1 := (PairAt.new w (.slice A n cap) (.string s) 26).alloc (.cells #[.slice A' n cap', .string s] 26)
  have K2 := PairAt.new (w.alloc (.cells #[.slice A n cap, .string s] 26)) (.slice A' n cap') (.string s) 26
  have hz : (w.alloc (.cells #[.slice A n cap, .string s] 26)).heap.size = w.heap.size + 1 := by simp
  rw [hz] at K2
  have CE := Lib.hid (cLikeI A A' cap cap' n xs _ hbig (h.below B0) (h'.below B0))
  have hd : (s.toList == s.toList) = true := by simp
  have HB := Lib.hid B0
  obtain ⟨_, a0, a1⟩ := K1
  obtain ⟨_, c0, c1⟩ := K2
  clear h h' B0 hz
  go_enter Tryd.func11, Tryd.ntmps11
  go_wp2_with (go_at_call 24; refine CE.out.mono ?_; rintro e w' ⟨rfl, hb1⟩)
  go_ret
  exact ⟨rfl, HB.out.trans (hb1.mono HB.out.size)⟩

set_option maxHeartbeats 4000000 in
set_option maxRecDepth 100000 in
theorem wRuleTexts (A : Option Addr) (len cap : Nat) (w : World) (hl : len ≤ maxLen) (h : CodeIn w A len) (hlaid : Laid w) (hsh : w.ShapedOpen Tryd.prog) :
    Calls Tryd.prog 3 #[.slice A len cap] w fun e w' => e = .returned (.bool true) ∧ Below w.heap.size w w' := by
  have CB := Lib.hid (cBig A len cap w hl)
  by_cases h1 : 4096 < len
  · rw [decide_eq_true h1] at CB
    clear h h1 hl hlaid hsh
    go_enter Tryd.func3, Tryd.ntmps3
    go_wp2_with fail
    refine CB.out.mono ?_
    rintro e w' ⟨rfl, rfl⟩
    go_wp2_with fail
    go_ret
    exact ⟨rfl, Below.refl _ _⟩
  rw [decide_eq_false h1] at CB
  have CD := Lib.hid (cDrawRuleText A len cap w (by omega) h)
  have CR := Lib.hid (fun W (hW : Below w.heap.size w W) => cDrawReadRule A len cap W (by omega) (h.below hW))
  have HLD := Lib.hid hlaid
  have HSH := Lib.hid hsh
  clear h h1 hl hlaid hsh
  go_enter Tryd.func3, Tryd.ntmps3
  go_wp2_with fail
  refine CB.out.mono ?_
  rintro e w' ⟨rfl, rfl⟩
  go_wp2_with fail
  refine CD.out.mono ?_
  rintro e w1 ⟨g, k, c0, xs, t, rfl, hk, ht, hx, own1, b1⟩
  obtain ⟨W1, hW1⟩ : ∃ W1, W1 = w1.alloc (.cells #[.slice (some ⟨g, 0, none⟩) k c0, .string t] 26) := ⟨_, rfl⟩
  have bW := alloc_below w1 (.cells #[.slice (some ⟨g, 0, none⟩) k c0, .string t] 26)
  have P1 := PairAt.new w1 (.slice (some ⟨g, 0, none⟩) k c0) (.string t) 26
  rw [← hW1] at bW P1
  have R1 := Lib.hid ((RowI.of own1).below bW)
  have HB1 := Lib.hid (b1.trans (bW.mono b1.size))
  have HP1 := Lib.hid P1
  obtain ⟨tt, c, hV, htz, hcc⟩ := rt_form (xs, t)
  have I1 := cRT_impl g k c0 (xs, t) W1 (by unfold maxLen; omega) (by unfold maxLen; simp only; omega) R1.out.numL (lt_pow (HLD.out.below HB1.out)) (HLD.out.below HB1.out).1
  rw [hV] at I1
  have HI1 := Lib.hid I1
  have HS1 := Lib.hid (fun W (hr : RowI W (some ⟨g, 0, none⟩) k c0 xs) => cRT_spec g k c0 (xs, t) W (by unfold maxLen; omega) (by unfold maxLen; simp only; omega) hr.numL)
  rw [hV] at HS1
  have HCC := Lib.hid hcc
  have HKX : Hid (k ≤ maxLen ∧ t.size ≤ maxLen) := Lib.hid ⟨by unfold maxLen; omega, by unfold maxLen; omega⟩
  have htt : (tt.toList == tt.toList) = true := beq_self_eq_true _
  have hcn : (c != c) = false := by simp
  obtain ⟨_, p0, p1⟩ := P1
  clear hV own1 b1 bW hcc I1 hx
  go_wp2_with fail
  rw [← hW1]
  clear hW1
  refine HI1.out.mono ?_
  rintro e w2 ⟨rfl, g2⟩
  have b2 := HB1.out.trans (g2.mono HB1.out.size)
  have R2 := Lib.hid (R1.out.below g2)
  have HP2 := Lib.hid (HP1.out.below g2)
  obtain ⟨_, p20, p21⟩ := HP2.out
  clear p0 p1
  go_wp2_with fail
  refine (HS1.out w2 R2.out).mono ?_
  rintro e w3 ⟨rfl, g3⟩
  have b3 := b2.trans (g3.mono b2.size)
  have R3 := Lib.hid (R2.out.below g3)
  have HP3 := Lib.hid (HP2.out.below g3)
  clear p20 p21
  go_wp2_with fail
  refine (CR.out _ b3).mono ?_
  rintro e w4 ⟨s, hs, rfl, g4⟩
  have b4 := b3.trans (g4.mono b3.size)
  have R4 := Lib.hid (R3.out.below g4)
  have HP4 := Lib.hid (HP3.out.below g4)
  obtain ⟨o, ho⟩ := RNum.have_ 43 3 (cutA s)
  have J1 := cRR_impl s o w4 (by omega) (HLD.out.below b4) (shaped_below2 HSH.out b4) ho
  have T1 := fun W => cRR_spec s o W (by omega) ho
  have hyl := readR_len ho
  have hd2 := readC_two s o
  have HTR := Lib.hid (fun hc => text_read ho hc)
  obtain ⟨y, hy⟩ : ∃ y, y = readR s o := ⟨_, rfl⟩
  obtain ⟨d, hd⟩ : ∃ d, d = readC s o := ⟨_, rfl⟩
  rw [← hy, ← hd] at J1 T1 HTR
  rw [← hy] at hyl
  rw [← hd] at hd2
  obtain ⟨ys, yt⟩ := y
  unfold RRPost at J1 T1
  simp only at J1 T1 hyl
  have HJ1 := Lib.hid J1
  have HT1 := Lib.hid T1
  have HYL := Lib.hid hyl
  have hss : (s.toList == s.toList) = true := beq_self_eq_true _
  have hdn : (d != d) = false := by simp
  have HD2 := Lib.hid hd2
  clear J1 T1 hyl hy hd hd2
  go_wp2_with fail
  refine HJ1.out.mono ?_
  rintro e w5 ⟨A1, m, c1, rfl, own5, g5⟩
  obtain ⟨W5, hW5⟩ : ∃ W5, W5 = w5.alloc (.cells #[.slice A1 m c1, .string yt] 26) := ⟨_, rfl⟩
  have bW5 := alloc_below w5 (.cells #[.slice A1 m c1, .string yt] 26)
  have P5 := PairAt.new w5 (.slice A1 m c1) (.string yt) 26
  rw [← hW5] at bW5 P5
  have G5 := g5.trans (bW5.mono g5.size)
  have b5 := b4.trans (G5.mono b4.size)
  have R5 := Lib.hid (R4.out.below G5)
  have HP5 := Lib.hid (HP4.out.below G5)
  have Q5 := Lib.hid ((RowI.of own5).below bW5)
  have HY5 := Lib.hid P5
  have hml := Q5.out.len
  have HML := Lib.hid hml
  have hm3 : m ≤ 3 := by have := HYL.out; omega
  clear own5 g5 bW5 P5 G5 hml
  go_wp2_with fail
  rw [← hW5]
  clear hW5
  refine (HT1.out _).mono ?_
  rintro e w6 ⟨A2, m2, c2, rfl, own6, g6⟩
  have hmm : m2 = m := (RowI.of own6).len.symm.trans HML.out
  subst hmm
  obtain ⟨W6, hW6⟩ : ∃ W6, W6 = w6.alloc (.cells #[.slice A2 m2 c2, .string yt] 26) := ⟨_, rfl⟩
  have bW6 := alloc_below w6 (.cells #[.slice A2 m2 c2, .string yt] 26)
  have P6 := PairAt.new w6 (.slice A2 m2 c2) (.string yt) 26
  rw [← hW6] at bW6 P6
  have G6 := g6.trans (bW6.mono g6.size)
  have b6 := b5.trans (G6.mono b5.size)
  have R6 := Lib.hid (R5.out.below G6)
  have HP6 := Lib.hid (HP5.out.below G6)
  have Q6 := Lib.hid (Q5.out.below G6)
  have HY6 := Lib.hid (HY5.out.below G6)
  have U6 := Lib.hid ((RowI.of own6).below bW6)
  have CL := Lib.hid (cLikeR A1 A2 c1 c2 m2 (ys, yt) W6 (by omega) Q6.out U6.out)
  have HB6 := Lib.hid b6
  obtain ⟨_, y0, y1⟩ := HY6.out
  obtain ⟨_, z0, z1⟩ := P6
  have CI := Lib.hid (fun W (hr : RowI W (some ⟨g, 0, none⟩) k c0 xs) => cIsRule_impl (some ⟨g, 0, none⟩) k c0 W.heap.size (xs, t) W HKX.out.1 HKX.out.2 hr.numL (Nat.le_refl _))
  have HAN := Lib.hid (fun (W : World) (hW : Below w.heap.size w W) (hc : c = 0) (hr : ruleB (xs, t) = true) (he : tt = textR (xs, t)) => show Calls Tryd.prog 9 #[.string tt] W (RRPost (xs, t) 0 W) from by
    obtain ⟨o2, ho2⟩ := RNum.have_ 43 3 (cutA (textR (xs, t)))
    have h9 := cRR_impl (textR (xs, t)) o2 W (by have := text_size hr; omega) (HLD.out.below hW) (shaped_below2 HSH.out hW) ho2
    rw [(read_text hr ho2).1, (read_text hr ho2).2] at h9
    rw [he]
    exact h9)
  have HY3 := Lib.hid (fun (W : World) (hW : Below w.heap.size w W) (hr : RowI W A1 m2 c1 ys) (hd0 : d = 0) => show Calls Tryd.prog 6 #[.agg #[.slice A1 m2 c1, .string yt]] W (fun e w' => e = .returned (.tuple #[.string s, .int .i64 0]) ∧ Below W.heap.size W w') from by
    obtain ⟨hrb, hrt⟩ := HTR.out hd0
    have hl1 := (signs_len (rule_signs hrb)).1
    simp only at hl1
    obtain ⟨ga, rfl, _, _⟩ := hr.cells (by have := hr.len; omega)
    have h9 := cRT_impl ga m2 c1 (ys, yt) W (by unfold maxLen; omega) (by have := rom_len (rule_rom hrb); unfold maxLen; simp only at this ⊢; omega) hr.numL (lt_pow (HLD.out.below hW)) (HLD.out.below hW).1
    unfold rtV at h9
    rw [hrb, hrt] at h9
    exact h9)
  clear own6 g6 bW6 G6 b5 b4 b3 b2 CR HS1 HI1 HJ1 HT1
  have HB66 := HB6
  subst hW6
  rcases HCC.out with ⟨hr, rfl, he⟩ | ⟨hr, rfl⟩
  · rw [hr] at CI
    have HRT := Lib.hid hr
    have HE := Lib.hid he
    clear hr he
    go_wp2_with fail
    refine CL.out.mono ?_
    rintro e w7 ⟨rfl, g7⟩
    have b7 := HB6.out.trans (g7.mono HB6.out.size)
    have R7 := Lib.hid (R6.out.below g7)
    obtain ⟨_, x0, x1⟩ := HP6.out.below g7
    have HP7 := Lib.hid (HP6.out.below g7)
    have Q7 := Lib.hid (Q6.out.below g7)
    have HY7 := Lib.hid (HY6.out.below g7)
    clear y0 y1 z0 z1
    go_wp2_with fail
    refine (CI.out w7 R7.out).mono ?_
    rintro e w8 ⟨rfl, g8⟩
    have b8 := b7.trans (g8.mono b7.size)
    have R8 := Lib.hid (R7.out.below g8)
    have HP8 := Lib.hid (HP7.out.below g8)
    have Q8 := Lib.hid (Q7.out.below g8)
    have HY8 := Lib.hid (HY7.out.below g8)
    clear x0 x1
    rcases HD2.out with hd0 | hd6
    · have HT8 := Lib.hid (HY3.out w8 b8 Q8.out hd0)
      subst hd0
      obtain ⟨_, y0, y1⟩ := HY8.out
      go_wp2_with fail
      refine HT8.out.mono ?_
      rintro e w9 ⟨rfl, g9⟩
      have b9 := b8.trans (g9.mono b8.size)
      have R9 := Lib.hid (R8.out.below g9)
      have HP9 := Lib.hid (HP8.out.below g9)
      have HM := Lib.hid (HAN.out w9 b9 (by first | rfl | trivial) HRT.out HE.out)
      unfold RRPost at HM
      go_wp2_with fail
      refine HM.out.mono ?_
      rintro e w10 ⟨A3, m3, c3, rfl, own3, g10⟩
      obtain rfl : m3 = k := (RowI.of own3).len.symm.trans R9.out.len
      have bX := alloc_below w10 (.cells #[.slice A3 m3 c3, .string t] 26)
      have P10 := PairAt.new w10 (.slice A3 m3 c3) (.string t) 26
      have G10 := g10.trans (bX.mono g10.size)
      have b10 := b9.trans (G10.mono b9.size)
      have CK := Lib.hid (cLikeR A3 (some ⟨g, 0, none⟩) c3 c0 m3 (xs, t) _ (by omega) ((RowI.of own3).below bX) (R9.out.below G10))
      obtain ⟨_, x0, x1⟩ := HP9.out.below G10
      obtain ⟨_, z0, z1⟩ := P10
      have HB10 := Lib.hid b10
      clear own3 g10 bX G10 b10
      go_wp2_with fail
      refine CK.out.mono ?_
      rintro e w11 ⟨rfl, g11⟩
      go_wp2_with fail
      go_ret
      exact ⟨rfl, HB10.out.trans (g11.mono HB10.out.size)⟩
    · subst hd6
      have HM := Lib.hid (HAN.out w8 b8 (by first | rfl | trivial) HRT.out HE.out)
      unfold RRPost at HM
      go_wp2_with fail
      refine HM.out.mono ?_
      rintro e w10 ⟨A3, m3, c3, rfl, own3, g10⟩
      obtain rfl : m3 = k := (RowI.of own3).len.symm.trans R8.out.len
      have bX := alloc_below w10 (.cells #[.slice A3 m3 c3, .string t] 26)
      have P10 := PairAt.new w10 (.slice A3 m3 c3) (.string t) 26
      have G10 := g10.trans (bX.mono g10.size)
      have b10 := b8.trans (G10.mono b8.size)
      have CK := Lib.hid (cLikeR A3 (some ⟨g, 0, none⟩) c3 c0 m3 (xs, t) _ (by omega) ((RowI.of own3).below bX) (R8.out.below G10))
      obtain ⟨_, x0, x1⟩ := HP8.out.below G10
      obtain ⟨_, z0, z1⟩ := P10
      have HB10 := Lib.hid b10
      clear own3 g10 bX G10 b10
      go_wp2_with fail
      refine CK.out.mono ?_
      rintro e w11 ⟨rfl, g11⟩
      go_wp2_with fail
      go_ret
      exact ⟨rfl, HB10.out.trans (g11.mono HB10.out.size)⟩
  · have HRT := Lib.hid hr
    rw [hr] at CI
    clear hr
    go_wp2_with fail
    refine CL.out.mono ?_
    rintro e w7 ⟨rfl, g7⟩
    have b7 := HB6.out.trans (g7.mono HB6.out.size)
    have R7 := Lib.hid (R6.out.below g7)
    obtain ⟨_, x0, x1⟩ := HP6.out.below g7
    have Q7 := Lib.hid (Q6.out.below g7)
    have HY7 := Lib.hid (HY6.out.below g7)
    clear y0 y1 z0 z1
    go_wp2_with fail
    refine (CI.out w7 R7.out).mono ?_
    rintro e w8 ⟨rfl, g8⟩
    have b8 := b7.trans (g8.mono b7.size)
    have Q8 := Lib.hid (Q7.out.below g8)
    have HY8 := Lib.hid (HY7.out.below g8)
    clear x0 x1
    rcases HD2.out with hd0 | hd6
    · have HT8 := Lib.hid (HY3.out w8 b8 Q8.out hd0)
      subst hd0
      obtain ⟨_, y0, y1⟩ := HY8.out
      go_wp2_with fail
      refine HT8.out.mono ?_
      rintro e w9 ⟨rfl, g9⟩
      have b9 := b8.trans (g9.mono b8.size)
      go_wp2_with fail
      go_ret
      exact ⟨rfl, b9⟩
    · subst hd6
      go_wp2_with fail
      go_ret
      exact ⟨rfl, b8⟩
end Go.Proofs.YtnfdbpfegmodcaaDoor
