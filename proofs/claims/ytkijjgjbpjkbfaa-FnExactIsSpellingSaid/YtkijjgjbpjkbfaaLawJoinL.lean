/-
  The law of JoinLetters: its call answers true, and nothing that was there changes.
-/
import Derived.Test.YtkijjgjbpjkbfaaJoinL
namespace Go.Proofs.Ytkijjgjbpjkbfaa
set_option linter.unusedVariables false
open Go.RowKit

theorem joinLV_form (xs : List ByteArray) (zs : List Int) : ∃ s c, joinLV xs zs = .tuple #[.string s, .int .i64 c] := by
  unfold joinLV
  by_cases h : alphaB xs = true
  · rw [if_pos h]
    by_cases h2 : zs.length ≤ 16 ∧ goodI xs zs = true
    · rw [if_pos h2]; exact ⟨_, _, rfl⟩
    · rw [if_neg h2]; exact ⟨_, _, rfl⟩
  · rw [if_neg h]; exact ⟨_, _, rfl⟩

theorem tJoinLS (A : Option Addr) (n cap B : Nat) (xs : List ByteArray) (A' : Option Addr) (m cap' B' : Nat) (zs : List Int) (w : World) (hbig : n ≤ 1048576) (hs : ∀ x ∈ xs, x.size ≤ maxLen) (h : TextAt w B A n xs) (hm : m ≤ 1048576) (hz : NumAt w B' A' m zs) :
    Calls Try.prog 12 #[.slice A n cap, .slice A' m cap'] w fun e w' => e = .returned (joinLV xs zs) ∧ w = w' := by
  have C := Lib.hid (tJoinL_spec A n cap B xs A' m cap' B' zs w hbig hs h hm hz)
  obtain ⟨s, c, hv⟩ := joinLV_form xs zs
  rw [hv] at C ⊢
  clear h hs hz hv
  go_enter Try.func12, Try.ntmps12
  go_wp2_with (go_at_call 24; refine C.out.mono ?_; rintro e w' ⟨rfl, rfl⟩)
  go_ret2
  exact ⟨rfl, rfl⟩

set_option maxHeartbeats 1000000 in
theorem wJoinLetters (a : Option Addr) (n cap : Nat) (zs : List ByteArray) (a' : Option Addr) (m cap' : Nat) (zs' : List Int) (w : World) (h : IsStrs w a n cap zs) (h' : IsInts .i64 w a' m cap' zs') :
    Calls Try.prog 4 #[.slice a n cap, .slice a' m cap'] w fun e w' => e = .returned (.bool true) ∧ Below w.heap.size w w' := by
  obtain ⟨hm, hs, ht⟩ := textAt_arg h
  obtain ⟨hm', ht'⟩ := numAt_arg h'
  clear h h'
  obtain ⟨xs, hxs⟩ : ∃ xs, xs = zs.take n := ⟨_, rfl⟩
  obtain ⟨ys, hys⟩ : ∃ ys, ys = zs'.take m := ⟨_, rfl⟩
  rw [← hxs] at hs ht
  rw [← hys] at ht'
  clear hxs hys
  have HS := Lib.hid hs
  have HT := Lib.hid ht
  have HZ := Lib.hid ht'
  have S1 := Lib.hid (tSz a n cap _ xs w hm hs ht)
  clear hs ht ht'
  unfold maxLen at hm hm'
  by_cases hbig : 1048576 < m
  · go_enter Try.func4, Try.ntmps4
    go_wp2_with fail
    go_ret
    exact ⟨rfl, Below.refl _ _⟩
  have hm1 : m ≤ 1048576 := by omega
  obtain ⟨s, c, hv⟩ := joinLV_form xs ys
  have HV := Lib.hid hv
  clear hv
  have hd1 : (s.toList != s.toList) = false := by simp
  have hd2 : (c != c) = false := by simp
  go_enter Try.func4, Try.ntmps4
  go_wp2_with fail
  refine S1.out.mono ?_
  rintro e w' ⟨r, hr, rfl, rfl⟩
  by_cases hr0 : r < 0
  · have hr1 := hr.1
    clear hr
    go_wp2_with fail
    go_ret
    exact ⟨rfl, Below.refl _ _⟩
  · obtain ⟨hn1, hs1⟩ : n ≤ 1048576 ∧ ∀ x ∈ xs, x.size ≤ 1048576 := by
      rcases hr.2 with h | h
      · omega
      · exact h
    have hr1 := hr.1
    have hr2 : 0 ≤ r := by omega
    clear hs1 hr
    go_wp2_with fail
    refine (tToS a n cap xs w hn1 HT.out).mono ?_
    rintro e w1 ⟨rfl, T1, _, B1⟩
    have K1 := Lib.hid T1; clear T1
    go_wp2_with fail
    refine (tToI a' m cap' ys w1 hm1 ((HZ.out.below B1 (Nat.le_refl _)).more B1.size)).mono ?_
    rintro e w2 ⟨rfl, T2, B2⟩
    have K2 := Lib.hid T2; clear T2
    have B12 := B1.trans (B2.mono B1.size)
    have CS := Lib.hid (tJoinLS _ n n _ xs _ m m _ ys w2 hn1 HS.out (K1.out.below B2 (Nat.le_refl _)) hm1 K2.out)
    rw [HV.out] at CS
    go_wp2_with fail
    refine CS.out.mono ?_
    rintro e w' ⟨rfl, rfl⟩
    go_wp2_with fail
    refine (tToS a n cap xs w2 hn1 ((HT.out.below B12 (Nat.le_refl _)).more B12.size)).mono ?_
    rintro e w3 ⟨rfl, T3, _, B3⟩
    have K3 := Lib.hid T3; clear T3
    have B13 := B12.trans (B3.mono B12.size)
    go_wp2_with fail
    refine (tToI a' m cap' ys w3 hm1 ((HZ.out.below B13 (Nat.le_refl _)).more B13.size)).mono ?_
    rintro e w4 ⟨rfl, T4, B4⟩
    have K4 := Lib.hid T4; clear T4
    have B14 := B13.trans (B4.mono B13.size)
    have CI := Lib.hid (tJoinL _ n n xs _ m m ys w4 hn1 HS.out ((K3.out.below B4 (Nat.le_refl _)).more B4.size) hm1 K4.out)
    rw [HV.out] at CI
    go_wp2_with fail
    refine CI.out.mono ?_
    rintro e w5 ⟨rfl, B5⟩
    have B15 := B14.trans (B5.mono B14.size)
    go_wp2_with fail
    refine (tToS a n cap xs w5 hn1 ((HT.out.below B15 (Nat.le_refl _)).more B15.size)).mono ?_
    rintro e w6 ⟨rfl, T6, _, B6⟩
    have K6 := Lib.hid T6; clear T6
    have B16 := B15.trans (B6.mono B15.size)
    go_wp2_with fail
    refine (tEqS w2.heap.size n w5.heap.size n n _ _ xs w6 hn1 (((K3.out.below B4 (Nat.le_refl _)).below B5 B4.size).below B6 (Nat.le_trans B4.size B5.size)) K6.out).mono ?_
    rintro e w' ⟨rfl, m1, rfl⟩
    go_wp2_with fail
    refine (tToI a' m cap' ys (w6.drewN m1) hm1 ((HZ.out.below (below_drN B16 m1) (Nat.le_refl _)).more (below_drN B16 m1).size)).mono ?_
    rintro e w7 ⟨rfl, T7, B7⟩
    have K7 := Lib.hid T7; clear T7
    have B17 := (below_drN B16 m1).trans (B7.mono B16.size)
    go_wp2_with fail
    refine (tEqI (some ⟨w3.heap.size, 0, none⟩) (some ⟨w6.heap.size, 0, none⟩) m m m _ _ ys w7 hm1 ((((K4.out.below B5 (Nat.le_refl _)).below B6 B5.size).below (below_drN (Below.refl _ _) m1) (Nat.le_trans B5.size B6.size)).below B7 (Nat.le_trans B5.size B6.size)) K7.out).mono ?_
    rintro e w' ⟨rfl, m2, rfl⟩
    go_wp2_with fail
    go_ret
    exact ⟨rfl, below_drN B17 m2⟩
end Go.Proofs.Ytkijjgjbpjkbfaa
