/-
  The law of AreSorted: its call answers true.
-/
import Derived.Test.YtjockiedganokaaDoorAreS
import Derived.Test.YtjockiedganokaaDoorToS2
import Derived.Test.YtjockiedganokaaDoorEqS
import Derived.Test.YtjockiedganokaaDoorNumAt
namespace Go.Proofs.YtjockiedganokaaDoor
set_option linter.unusedVariables false
open Go.RowKit

theorem asV_form (xs ls : List ByteArray) (ig : List Int) : ∃ (b : Bool) (c : Int), asV xs ls ig = .tuple #[.bool b, .int .i64 c] := by
  unfold asV; split
  · exact ⟨_, _, rfl⟩
  · exact ⟨_, _, rfl⟩

set_option maxHeartbeats 2000000 in
theorem wAreS (a : Option Addr) (n cap : Nat) (zs : List ByteArray) (a1 : Option Addr) (n1 cap1 : Nat) (z1 : List ByteArray) (a2 : Option Addr) (n2 cap2 : Nat) (z2 : List Int) (w : World) (h : IsStrs w a n cap zs) (h1 : IsStrs w a1 n1 cap1 z1) (h2 : IsInts .i64 w a2 n2 cap2 z2) (hsh : w.ShapedOpen Tryd.prog) :
    Calls Tryd.prog 7 #[.slice a n cap, .slice a1 n1 cap1, .slice a2 n2 cap2] w fun e w' => e = .returned (.bool true) ∧ Below w.heap.size w w' := by
  obtain ⟨hm, hs, ht⟩ := textAt_arg h
  obtain ⟨hm1, hs1, ht1⟩ := textAt_arg h1
  obtain ⟨hm2, ht2⟩ := numAt_arg h2
  clear h h1 h2
  obtain ⟨xs, hxs⟩ : ∃ xs, xs = zs.take n := ⟨_, rfl⟩
  rw [← hxs] at hs ht
  obtain ⟨ls, hls⟩ : ∃ ls, ls = z1.take n1 := ⟨_, rfl⟩
  rw [← hls] at hs1 ht1
  obtain ⟨ig, hig⟩ : ∃ ig, ig = z2.take n2 := ⟨_, rfl⟩
  rw [← hig] at ht2
  clear hxs hls hig
  have HS := Lib.hid hs
  have HT := Lib.hid ht
  have HT1 := Lib.hid ht1
  have HT2 := Lib.hid ht2
  have HSH := Lib.hid hsh
  have S1 := Lib.hid (tSz a n cap _ xs w hm hs ht)
  have S2 : Hid (∀ r : Int, 0 ≤ r → r ≤ 1048576 → Calls Tryd.prog 22 #[.slice a1 n1 cap1, .int .i64 r] w (SomeR (SmallS n1 ls) w)) := Lib.hid (fun r h0 h1 => tSz2 a1 n1 cap1 _ ls r h0 h1 w hm1 hs1 ht1)
  clear hs ht hs1 ht1 ht2 hsh
  unfold maxLen at hm hm1 hm2
  by_cases hbig : 1048576 < n2
  · go_enter Tryd.func7, Tryd.ntmps7
    go_wp2_with fail
    go_ret
    exact ⟨rfl, Below.refl _ _⟩
  have hn2 : n2 ≤ 1048576 := by omega
  obtain ⟨t, c, hv⟩ := asV_form xs ls ig
  have HV := Lib.hid hv
  clear hv
  have hd1 : (t != t) = false := by simp
  have hd2 : (c != c) = false := by simp
  go_enter Tryd.func7, Tryd.ntmps7
  go_wp2_with fail
  refine S1.out.mono ?_
  rintro e w' ⟨r, hr, rfl, rfl⟩
  by_cases hr0 : r < 0
  · have hr1 := hr.1
    clear hr
    go_wp2_with fail
    go_ret
    exact ⟨rfl, Below.refl _ _⟩
  obtain ⟨hn1, hs1⟩ : n ≤ 1048576 ∧ ∀ x ∈ xs, x.size ≤ 1048576 := by
    rcases hr.2 with h | h
    · omega
    · exact h
  have hr1 := hr.1
  have hr2 : 0 ≤ r := by omega
  clear hs1 hr
  go_wp2_with fail
  refine (S2.out r hr2 hr1).mono ?_
  rintro e w' ⟨q, hq, rfl, rfl⟩
  by_cases hq0 : q < 0
  · have hq1 := hq.1
    clear hq
    go_wp2_with fail
    go_ret
    exact ⟨rfl, Below.refl _ _⟩
  obtain ⟨hl1, hls1⟩ : n1 ≤ 1048576 ∧ ∀ x ∈ ls, x.size ≤ 1048576 := by
    rcases hq.2 with h | h
    · omega
    · exact h
  have hq1 := hq.1
  have hq2 : 0 ≤ q := by omega
  have HLS := Lib.hid hls1
  clear hls1 hq
  -- the reference
  go_wp2_with fail
  refine (tToS2 a n cap xs w hn1 HT.out).mono ?_
  rintro e w1 ⟨rfl, T1, B1⟩
  have K1 := Lib.hid T1; clear T1
  go_wp2_with fail
  refine (tToS2 a1 n1 cap1 ls w1 hl1 ((HT1.out.below B1 (Nat.le_refl _)).more B1.size)).mono ?_
  rintro e w2 ⟨rfl, T2, B2⟩
  have K2 := Lib.hid T2; clear T2
  have C2 := B1.trans (B2.mono B1.size)
  go_wp2_with fail
  refine (tToI a2 n2 cap2 ig w2 hn2 ((HT2.out.below C2 (Nat.le_refl _)).more C2.size)).mono ?_
  rintro e w3 ⟨rfl, T3, B3⟩
  have K3 := Lib.hid T3; clear T3
  have C3 := C2.trans (B3.mono C2.size)
  have CS := Lib.hid (tAS_spec _ _ _ n n1 n2 n n1 n2 xs ls ig w3 hn1 HS.out ((K1.out.below B2).below B3).at (K2.out.below B3).at hl1 HLS.out K3.out (by unfold maxLen; omega))
  rw [HV.out] at CS
  go_wp2_with fail
  refine CS.out.mono ?_
  rintro e w4 ⟨rfl, B4⟩
  have C4 := C3.trans (B4.mono C3.size)
  clear CS
  -- the program
  go_wp2_with fail
  refine (tToS2 a n cap xs w4 hn1 ((HT.out.below C4 (Nat.le_refl _)).more C4.size)).mono ?_
  rintro e w5 ⟨rfl, T5, B5⟩
  have K5 := Lib.hid T5; clear T5
  have C5 := C4.trans (B5.mono C4.size)
  go_wp2_with fail
  refine (tToS2 a1 n1 cap1 ls w5 hl1 ((HT1.out.below C5 (Nat.le_refl _)).more C5.size)).mono ?_
  rintro e w6 ⟨rfl, T6, B6⟩
  have K6 := Lib.hid T6; clear T6
  have C6 := C5.trans (B6.mono C5.size)
  go_wp2_with fail
  refine (tToI a2 n2 cap2 ig w6 hn2 ((HT2.out.below C6 (Nat.le_refl _)).more C6.size)).mono ?_
  rintro e w7 ⟨rfl, T7, B7⟩
  have K7 := Lib.hid T7; clear T7
  have C7 := C6.trans (B7.mono C6.size)
  have CI := Lib.hid (tAS_impl _ _ _ n n1 n2 n n1 n2 xs ls ig w7 hn1 HS.out ((K5.out.below B6).below B7).at (K6.out.below B7) hl1 HLS.out K7.out (by unfold maxLen; omega) (shaped_below HSH.out C7))
  rw [HV.out] at CI
  go_wp2_with fail
  refine CI.out.mono ?_
  rintro e w8 ⟨rfl, B8⟩
  have C8 := C7.trans (B8.mono C7.size)
  clear CI
  -- the arguments are as they were
  go_wp2_with fail
  refine (tToS2 a n cap xs w8 hn1 ((HT.out.below C8 (Nat.le_refl _)).more C8.size)).mono ?_
  rintro e w9 ⟨rfl, T9, B9⟩
  have K9 := Lib.hid T9; clear T9
  have C9 := C8.trans (B9.mono C8.size)
  have E5 := Lib.hid ((((K5.out.below B6).below B7).below B8).below B9).at
  go_wp2_with fail
  refine (tEqS w4.heap.size n w8.heap.size n n _ _ xs w9 hn1 E5.out K9.out.at).mono ?_
  rintro e w' ⟨rfl, m, rfl⟩
  have hD : Below w.heap.size w (w9.drewN m) := below_drN C9 m
  go_wp2_with fail
  refine (tToS2 a1 n1 cap1 ls (w9.drewN m) hl1 ((HT1.out.below hD (Nat.le_refl _)).more hD.size)).mono ?_
  rintro e wa ⟨rfl, Ta, Ba⟩
  have Ka := Lib.hid Ta; clear Ta
  have Ba' : Below w9.heap.size w9 wa := ⟨Ba.os, Ba.tape, Ba.output, Ba.size, Ba.block⟩
  have Ca := hD.trans (Ba.mono hD.size)
  have E6 := Lib.hid ((((K6.out.below B7).below B8).below B9).below Ba').at
  go_wp2_with fail
  refine (tEqS w5.heap.size n1 w9.heap.size n1 n1 _ _ ls wa hl1 E6.out Ka.out.at).mono ?_
  rintro e w' ⟨rfl, m2, rfl⟩
  have hD2 : Below w.heap.size w (wa.drewN m2) := below_drN Ca m2
  go_wp2_with fail
  refine (tToI a2 n2 cap2 ig (wa.drewN m2) hn2 ((HT2.out.below hD2 (Nat.le_refl _)).more hD2.size)).mono ?_
  rintro e wb ⟨rfl, Tb, Bb⟩
  have Kb := Lib.hid Tb; clear Tb
  have Bb' : Below wa.heap.size wa wb := ⟨Bb.os, Bb.tape, Bb.output, Bb.size, Bb.block⟩
  have Cb := hD2.trans (Bb.mono hD2.size)
  have E7 := Lib.hid ((((K7.out.below B8 (Nat.le_refl _)).below B9 B8.size).below Ba' (Nat.le_trans B8.size B9.size)).below Bb' (Nat.le_trans B8.size (Nat.le_trans B9.size Ba'.size)))
  go_wp2_with fail
  refine (tEqI (some ⟨w6.heap.size, 0, none⟩) (some ⟨wa.heap.size, 0, none⟩) n2 n2 n2 _ _ ig wb hn2 E7.out Kb.out).mono ?_
  rintro e w' ⟨rfl, m3, rfl⟩
  go_wp2_with fail
  go_ret
  exact ⟨rfl, below_drN Cb m3⟩
end Go.Proofs.YtjockiedganokaaDoor
