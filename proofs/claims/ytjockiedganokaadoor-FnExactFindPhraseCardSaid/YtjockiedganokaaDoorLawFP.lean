/-
  The law of FindPhrase: its call answers true.
-/
import Derived.Test.YtjockiedganokaaDoorFindS
import Derived.Test.YtjockiedganokaaDoorToS2
import Derived.Test.YtjockiedganokaaDoorEqS
import Derived.Test.YtjockiedganokaaDoorNumAt
namespace Go.Proofs.YtjockiedganokaaDoor
set_option linter.unusedVariables false
open Go.RowKit

theorem fpV_form (xs ls : List ByteArray) (s : ByteArray) : ∃ (r c : Int), fpV xs ls s = .tuple #[.int .i64 r, .int .i64 c] := by
  unfold fpV; split
  · split
    · exact ⟨_, _, rfl⟩
    · exact ⟨_, _, rfl⟩
  · exact ⟨_, _, rfl⟩

set_option maxHeartbeats 2000000 in
theorem wFindP (a : Option Addr) (n cap : Nat) (zs : List ByteArray) (a1 : Option Addr) (n1 cap1 : Nat) (z1 : List ByteArray) (s : ByteArray) (hz : s.size ≤ maxLen) (w : World) (h : IsStrs w a n cap zs) (h1 : IsStrs w a1 n1 cap1 z1) (hsh : w.ShapedOpen Tryd.prog) :
    Calls Tryd.prog 8 #[.slice a n cap, .slice a1 n1 cap1, .string s] w fun e w' => e = .returned (.bool true) ∧ Below w.heap.size w w' := by
  obtain ⟨hm, hs, ht⟩ := textAt_arg h
  obtain ⟨hm1, hs1, ht1⟩ := textAt_arg h1
  clear h h1
  obtain ⟨xs, hxs⟩ : ∃ xs, xs = zs.take n := ⟨_, rfl⟩
  rw [← hxs] at hs ht
  obtain ⟨ls, hls⟩ : ∃ ls, ls = z1.take n1 := ⟨_, rfl⟩
  rw [← hls] at hs1 ht1
  clear hxs hls
  have HS := Lib.hid hs
  have HT := Lib.hid ht
  have HT1 := Lib.hid ht1
  have HSH := Lib.hid hsh
  have S1 := Lib.hid (tSz a n cap _ xs w hm hs ht)
  have S2 : Hid (∀ r : Int, 0 ≤ r → r ≤ 1048576 → Calls Tryd.prog 22 #[.slice a1 n1 cap1, .int .i64 r] w (SomeR (SmallS n1 ls) w)) := Lib.hid (fun r h0 h1 => tSz2 a1 n1 cap1 _ ls r h0 h1 w hm1 hs1 ht1)
  clear hs ht hs1 ht1 hsh
  unfold maxLen at hm hm1 hz
  by_cases hbig : 1048576 < s.size
  · go_enter Tryd.func8, Tryd.ntmps8
    go_wp2_with fail
    go_ret
    exact ⟨rfl, Below.refl _ _⟩
  have hz1 : s.size ≤ 1048576 := by omega
  obtain ⟨t, c, hv⟩ := fpV_form xs ls s
  have HV := Lib.hid hv
  clear hv
  have hd1 : (t != t) = false := by simp
  have hd2 : (c != c) = false := by simp
  go_enter Tryd.func8, Tryd.ntmps8
  go_wp2_with fail
  refine S1.out.mono ?_
  rintro e w' ⟨r, hr, rfl, rfl⟩
  by_cases hr0 : r < 0
  · have hr1 := hr.1
    clear hr
    go_wp2_with fail
    go_ret
    exact ⟨rfl, Below.refl _ _⟩
  obtain ⟨hn1, hs1⟩ : n ≤ 1048576 ∧ ∀ x ∈ xs, x.size ≤ 1048576 := by
    rcases hr.2 with h | h
    · omega
    · exact h
  have hr1 := hr.1
  have hr2 : 0 ≤ r := by omega
  clear hs1 hr
  go_wp2_with fail
  refine (S2.out r hr2 hr1).mono ?_
  rintro e w' ⟨q, hq, rfl, rfl⟩
  by_cases hq0 : q < 0
  · have hq1 := hq.1
    clear hq
    go_wp2_with fail
    go_ret
    exact ⟨rfl, Below.refl _ _⟩
  obtain ⟨hl1, hls1⟩ : n1 ≤ 1048576 ∧ ∀ x ∈ ls, x.size ≤ 1048576 := by
    rcases hq.2 with h | h
    · omega
    · exact h
  have hq1 := hq.1
  have hq2 : 0 ≤ q := by omega
  have HLS := Lib.hid hls1
  clear hls1 hq
  -- the reference
  go_wp2_with fail
  refine (tToS2 a n cap xs w hn1 HT.out).mono ?_
  rintro e w1 ⟨rfl, T1, B1⟩
  have K1 := Lib.hid T1; clear T1
  go_wp2_with fail
  refine (tToS2 a1 n1 cap1 ls w1 hl1 ((HT1.out.below B1 (Nat.le_refl _)).more B1.size)).mono ?_
  rintro e w2 ⟨rfl, T2, B2⟩
  have K2 := Lib.hid T2; clear T2
  have C2 := B1.trans (B2.mono B1.size)
  have CS := Lib.hid (tFP_spec _ _ n n1 n n1 xs ls s w2 hn1 HS.out (K1.out.below B2).at K2.out hl1 HLS.out hz1)
  rw [HV.out] at CS
  go_wp2_with fail
  refine CS.out.mono ?_
  rintro e w4 ⟨rfl, B4⟩
  have C4 := C2.trans (B4.mono C2.size)
  clear CS
  -- the program
  go_wp2_with fail
  refine (tToS2 a n cap xs w4 hn1 ((HT.out.below C4 (Nat.le_refl _)).more C4.size)).mono ?_
  rintro e w5 ⟨rfl, T5, B5⟩
  have K5 := Lib.hid T5; clear T5
  have C5 := C4.trans (B5.mono C4.size)
  go_wp2_with fail
  refine (tToS2 a1 n1 cap1 ls w5 hl1 ((HT1.out.below C5 (Nat.le_refl _)).more C5.size)).mono ?_
  rintro e w6 ⟨rfl, T6, B6⟩
  have K6 := Lib.hid T6; clear T6
  have C6 := C5.trans (B6.mono C5.size)
  have CI := Lib.hid (tFP_impl _ _ n n1 n n1 xs ls s w6 hn1 HS.out (K5.out.below B6).at K6.out hl1 HLS.out hz1 (shaped_below HSH.out C6))
  rw [HV.out] at CI
  go_wp2_with fail
  refine CI.out.mono ?_
  rintro e w8 ⟨rfl, B8⟩
  have C8 := C6.trans (B8.mono C6.size)
  clear CI
  -- the arguments are as they were
  go_wp2_with fail
  refine (tToS2 a n cap xs w8 hn1 ((HT.out.below C8 (Nat.le_refl _)).more C8.size)).mono ?_
  rintro e w9 ⟨rfl, T9, B9⟩
  have K9 := Lib.hid T9; clear T9
  have C9 := C8.trans (B9.mono C8.size)
  have E5 := Lib.hid (((K5.out.below B6).below B8).below B9).at
  go_wp2_with fail
  refine (tEqS w4.heap.size n w8.heap.size n n _ _ xs w9 hn1 E5.out K9.out.at).mono ?_
  rintro e w' ⟨rfl, m, rfl⟩
  have hD : Below w.heap.size w (w9.drewN m) := below_drN C9 m
  go_wp2_with fail
  refine (tToS2 a1 n1 cap1 ls (w9.drewN m) hl1 ((HT1.out.below hD (Nat.le_refl _)).more hD.size)).mono ?_
  rintro e wa ⟨rfl, Ta, Ba⟩
  have Ka := Lib.hid Ta; clear Ta
  have Ba' : Below w9.heap.size w9 wa := ⟨Ba.os, Ba.tape, Ba.output, Ba.size, Ba.block⟩
  have Ca := hD.trans (Ba.mono hD.size)
  have E6 := Lib.hid (((K6.out.below B8).below B9).below Ba').at
  go_wp2_with fail
  refine (tEqS w5.heap.size n1 w9.heap.size n1 n1 _ _ ls wa hl1 E6.out Ka.out.at).mono ?_
  rintro e w' ⟨rfl, m2, rfl⟩
  go_wp2_with fail
  go_ret
  exact ⟨rfl, below_drN Ca m2⟩
end Go.Proofs.YtjockiedganokaaDoor
