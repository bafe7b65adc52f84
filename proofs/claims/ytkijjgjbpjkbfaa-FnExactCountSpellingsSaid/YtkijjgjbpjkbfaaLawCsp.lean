/-
  The law of CountSpellings: its call answers true.
-/
import Derived.Test.YtkijjgjbpjkbfaaSpCountS
namespace Go.Proofs.Ytkijjgjbpjkbfaa
set_option linter.unusedVariables false
open Go.RowKit

theorem cspV_form (xs : List ByteArray) (s : ByteArray) : ∃ b c, cspV xs s = .tuple #[.int .i64 b, .int .i64 c] := by
  unfold cspV; split
  · exact ⟨_, _, rfl⟩
  · exact ⟨_, _, rfl⟩
theorem tCount_spec (A : Option Addr) (n cap : Nat) (xs : List ByteArray) (s : ByteArray) (w : World) (hbig : n ≤ 1048576) (hs : ∀ x ∈ xs, x.size ≤ maxLen) (h : TextAt w w.heap.size A n xs) (hz : s.size ≤ 1048576) :
    Calls Try.prog 18 #[.slice A n cap, .string s] w fun e w' => e = .returned (cspV xs s) ∧ Below w.heap.size w w' := by
  cases hok : okW xs s
  · exact tCspS_bad A n cap _ xs s w hbig hs h hz hok
  · exact tCspS_ok A n cap xs s w hbig hs h hok
theorem tCount (A : Option Addr) (n cap : Nat) (xs : List ByteArray) (s : ByteArray) (w : World) (hbig : n ≤ 1048576) (hs : ∀ x ∈ xs, x.size ≤ maxLen) (h : TextAt w w.heap.size A n xs) (hz : s.size ≤ 1048576) :
    Calls Try.prog 19 #[.slice A n cap, .string s] w fun e w' => e = .returned (cspV xs s) ∧ Below w.heap.size w w' := by
  cases hok : okW xs s
  · exact tCsp_bad A n cap xs s w hbig hs h hz hok
  · exact tCsp_ok A n cap xs s w hbig hs h hok

set_option maxHeartbeats 1000000 in
theorem wCountSp (a : Option Addr) (n cap : Nat) (zs : List ByteArray) (s : ByteArray) (hz : s.size ≤ maxLen) (w : World) (h : IsStrs w a n cap zs) :
    Calls Try.prog 6 #[.slice a n cap, .string s] w fun e w' => e = .returned (.bool true) ∧ Below w.heap.size w w' := by
  obtain ⟨hm, hs, ht⟩ := textAt_arg h
  clear h
  obtain ⟨xs, hxs⟩ : ∃ xs, xs = zs.take n := ⟨_, rfl⟩
  rw [← hxs] at hs ht
  clear hxs
  have HS := Lib.hid hs
  have HT := Lib.hid ht
  have S1 := Lib.hid (tSz a n cap _ xs w hm hs ht)
  clear hs ht
  unfold maxLen at hm hz
  by_cases hbig : 1048576 < s.size
  · go_enter Try.func6, Try.ntmps6
    go_wp2_with fail
    go_ret
    exact ⟨rfl, Below.refl _ _⟩
  have hz1 : s.size ≤ 1048576 := by omega
  obtain ⟨b, c, hv⟩ := cspV_form xs s
  have HV := Lib.hid hv
  clear hv
  have hd1 : (b != b) = false := by simp
  have hd2 : (c != c) = false := by simp
  go_enter Try.func6, Try.ntmps6
  go_wp2_with fail
  refine S1.out.mono ?_
  rintro e w' ⟨r, hr, rfl, rfl⟩
  by_cases hr0 : r < 0
  · have hr1 := hr.1
    clear hr
    go_wp2_with fail
    go_ret
    exact ⟨rfl, Below.refl _ _⟩
  · obtain ⟨hn1, hs1⟩ : n ≤ 1048576 ∧ ∀ x ∈ xs, x.size ≤ 1048576 := by
      rcases hr.2 with h | h
      · omega
      · exact h
    have hr1 := hr.1
    have hr2 : 0 ≤ r := by omega
    clear hs1 hr
    go_wp2_with fail
    refine (tToS a n cap xs w hn1 HT.out).mono ?_
    rintro e w1 ⟨rfl, T1, _, B1⟩
    have K1 := Lib.hid T1; clear T1
    have CS := Lib.hid (tCount_spec _ n n xs s w1 hn1 HS.out K1.out hz1)
    rw [HV.out] at CS
    go_wp2_with fail
    refine CS.out.mono ?_
    rintro e w2 ⟨rfl, B2⟩
    have B12 := B1.trans (B2.mono B1.size)
    go_wp2_with fail
    refine (tToS a n cap xs w2 hn1 ((HT.out.below B12 (Nat.le_refl _)).more B12.size)).mono ?_
    rintro e w3 ⟨rfl, T3, _, B3⟩
    have K3 := Lib.hid T3; clear T3
    have B13 := B12.trans (B3.mono B12.size)
    have CI := Lib.hid (tCount _ n n xs s w3 hn1 HS.out K3.out hz1)
    rw [HV.out] at CI
    go_wp2_with fail
    refine CI.out.mono ?_
    rintro e w4 ⟨rfl, B4⟩
    have B14 := B13.trans (B4.mono B13.size)
    go_wp2_with fail
    refine (tToS a n cap xs w4 hn1 ((HT.out.below B14 (Nat.le_refl _)).more B14.size)).mono ?_
    rintro e w5 ⟨rfl, T5, _, B5⟩
    have K5 := Lib.hid T5; clear T5
    have B15 := B14.trans (B5.mono B14.size)
    go_wp2_with fail
    refine (tEqS w2.heap.size n w4.heap.size n n _ _ xs w5 hn1 ((K3.out.below B4 (Nat.le_refl _)).below B5 B4.size) K5.out).mono ?_
    rintro e w' ⟨rfl, m, rfl⟩
    go_wp2_with fail
    go_ret
    exact ⟨rfl, below_drN B15 m⟩
end Go.Proofs.Ytkijjgjbpjkbfaa
