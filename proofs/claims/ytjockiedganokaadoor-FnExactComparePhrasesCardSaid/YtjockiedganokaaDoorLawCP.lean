/-
  The law of ComparePhrases: its call answers true.
-/
import Derived.Test.YtjockiedganokaaDoorCmpPh
import Derived.Test.YtjockiedganokaaDoorEqS
import Derived.Test.YtjockiedganokaaDoorTexts
import Derived.Test.YtjockiedganokaaDoorNumAt
namespace Go.Proofs.YtjockiedganokaaDoor
set_option linter.unusedVariables false
open Go.RowKit

theorem cpV_form (xs : List ByteArray) (s t : ByteArray) (ig : List Int) : ∃ (r c : Int), cpV xs s t ig = .tuple #[.int .i64 r, .int .i64 c] := by
  unfold cpV; split
  · exact ⟨_, _, rfl⟩
  · exact ⟨_, _, rfl⟩

set_option maxHeartbeats 1000000 in
theorem wCmpPh (a : Option Addr) (n cap : Nat) (zs : List ByteArray) (s u : ByteArray) (hz : s.size ≤ maxLen) (hzu : u.size ≤ maxLen) (a2 : Option Addr) (n2 cap2 : Nat) (z2 : List Int) (w : World) (h : IsStrs w a n cap zs) (h2 : IsInts .i64 w a2 n2 cap2 z2) (hsh : w.ShapedOpen Tryd.prog) :
    Calls Tryd.prog 5 #[.slice a n cap, .string s, .string u, .slice a2 n2 cap2] w fun e w' => e = .returned (.bool true) ∧ Below w.heap.size w w' := by
  obtain ⟨hm, hs, ht⟩ := textAt_arg h
  obtain ⟨hm2, ht2⟩ := numAt_arg h2
  clear h h2
  obtain ⟨ig, hig⟩ : ∃ ig, ig = z2.take n2 := ⟨_, rfl⟩
  rw [← hig] at ht2
  clear hig
  have HT2 := Lib.hid ht2
  clear ht2
  obtain ⟨xs, hxs⟩ : ∃ xs, xs = zs.take n := ⟨_, rfl⟩
  rw [← hxs] at hs ht
  clear hxs
  have HS := Lib.hid hs
  have HT := Lib.hid ht
  have HSH := Lib.hid hsh
  have S1 := Lib.hid (tSz a n cap _ xs w hm hs ht)
  clear hs ht hsh
  unfold maxLen at hm hz hzu hm2
  by_cases hbig : 1048576 < s.size
  · go_enter Tryd.func5, Tryd.ntmps5
    go_wp2_with fail
    go_ret
    exact ⟨rfl, Below.refl _ _⟩
  by_cases hbig2 : 1048576 < u.size
  · go_enter Tryd.func5, Tryd.ntmps5
    go_wp2_with fail
    go_ret
    exact ⟨rfl, Below.refl _ _⟩
  by_cases hbig3 : 1048576 < n2
  · go_enter Tryd.func5, Tryd.ntmps5
    go_wp2_with fail
    go_ret
    exact ⟨rfl, Below.refl _ _⟩
  have hzu1 : u.size ≤ 1048576 := by omega
  have hn2 : n2 ≤ 1048576 := by omega
  have hz1 : s.size ≤ 1048576 := by omega
  obtain ⟨t, c, hv⟩ := cpV_form xs s u ig
  have HV := Lib.hid hv
  clear hv
  have hd1 : (t != t) = false := by simp
  have hd2 : (c != c) = false := by simp
  go_enter Tryd.func5, Tryd.ntmps5
  go_wp2_with fail
  refine S1.out.mono ?_
  rintro e w' ⟨r, hr, rfl, rfl⟩
  by_cases hr0 : r < 0
  · have hr1 := hr.1
    clear hr
    go_wp2_with fail
    go_ret
    exact ⟨rfl, Below.refl _ _⟩
  · obtain ⟨hn1, hs1⟩ : n ≤ 1048576 ∧ ∀ x ∈ xs, x.size ≤ 1048576 := by
      rcases hr.2 with h | h
      · omega
      · exact h
    have hr1 := hr.1
    have hr2 : 0 ≤ r := by omega
    clear hs1 hr
    go_wp2_with fail
    refine (tToS a n cap xs w hn1 HT.out).mono ?_
    rintro e w1 ⟨rfl, T1, _, B1⟩
    have K1 := Lib.hid T1; clear T1
    go_wp2_with fail
    refine (tToI a2 n2 cap2 ig w1 hn2 ((HT2.out.below B1 (Nat.le_refl _)).more B1.size)).mono ?_
    rintro e w2 ⟨rfl, T2, B2⟩
    have K2 := Lib.hid T2; clear T2
    have B12 := B1.trans (B2.mono B1.size)
    have CS := Lib.hid (tCP_spec _ _ n n2 n n2 xs s u ig w2 hn1 HS.out ((K1.out.below B2 (Nat.le_refl _)).more B2.size) hz1 hzu1 K2.out (by unfold maxLen; omega))
    rw [HV.out] at CS
    go_wp2_with fail
    refine CS.out.mono ?_
    rintro e w3 ⟨rfl, B3⟩
    have B13 := B12.trans (B3.mono B12.size)
    go_wp2_with fail
    refine (tToS a n cap xs w3 hn1 ((HT.out.below B13 (Nat.le_refl _)).more B13.size)).mono ?_
    rintro e w4 ⟨rfl, T4, _, B4⟩
    have K4 := Lib.hid T4; clear T4
    have B14 := B13.trans (B4.mono B13.size)
    go_wp2_with fail
    refine (tToI a2 n2 cap2 ig w4 hn2 ((HT2.out.below B14 (Nat.le_refl _)).more B14.size)).mono ?_
    rintro e w5 ⟨rfl, T5, B5⟩
    have K5 := Lib.hid T5; clear T5
    have B15 := B14.trans (B5.mono B14.size)
    have CI := Lib.hid (tCP_impl _ _ n n2 n n2 xs s u ig w5 hn1 HS.out ((K4.out.below B5 (Nat.le_refl _)).more B5.size) hz1 hzu1 K5.out (by unfold maxLen; omega) (shaped_below HSH.out B15))
    rw [HV.out] at CI
    go_wp2_with fail
    refine CI.out.mono ?_
    rintro e w6 ⟨rfl, B6⟩
    have B16 := B15.trans (B6.mono B15.size)
    go_wp2_with fail
    refine (tToS a n cap xs w6 hn1 ((HT.out.below B16 (Nat.le_refl _)).more B16.size)).mono ?_
    rintro e w7 ⟨rfl, T7, _, B7⟩
    have K7 := Lib.hid T7; clear T7
    have B17 := B16.trans (B7.mono B16.size)
    have E4 := Lib.hid ((((K4.out.below B5 (Nat.le_refl _)).below B6 B5.size).below B7 (Nat.le_trans B5.size B6.size)))
    go_wp2_with fail
    refine (tEqS w3.heap.size n w6.heap.size n n _ _ xs w7 hn1 E4.out K7.out).mono ?_
    rintro e w' ⟨rfl, m, rfl⟩
    go_wp2_with fail
    refine (tToI a2 n2 cap2 ig (w7.drewN m) hn2 (show NumAt (w7.drewN m) (w7.drewN m).heap.size a2 n2 ig from (HT2.out.below B17 (Nat.le_refl _)).more B17.size)).mono ?_
    rintro e w8 ⟨rfl, T8, B8⟩
    have K8 := Lib.hid T8; clear T8
    have B8' : Below w7.heap.size w7 w8 := ⟨B8.os, B8.tape, B8.output, B8.size, B8.block⟩
    have E5 := Lib.hid (((K5.out.below B6 (Nat.le_refl _)).below B7 B6.size).below B8' (Nat.le_trans B6.size B7.size))
    go_wp2_with fail
    refine (tEqI (some ⟨w4.heap.size, 0, none⟩) (some ⟨w7.heap.size, 0, none⟩) n2 n2 n2 _ _ ig w8 hn2 E5.out K8.out).mono ?_
    rintro e w' ⟨rfl, m', rfl⟩
    go_wp2_with fail
    go_ret
    exact ⟨rfl, below_drN (B17.trans (B8'.mono B17.size)) m'⟩
end Go.Proofs.YtjockiedganokaaDoor
