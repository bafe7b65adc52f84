/-
  The law of Romanise: its call answers true.
-/
import Derived.Test.YtnodnjaajaemcabRoman
import Derived.Test.YtnodnjaajaemcabLawIsTable
namespace Go.Proofs.Ytnodnjaajaemcab
set_option linter.unusedVariables false
open Go.RowKit

theorem romV_form (rs : List Ru) (xs : List Int) : ∃ t code, romV rs xs = .tuple #[.string t, .int .i64 code] := by
  unfold romV
  split
  · split
    · exact ⟨_, _, rfl⟩
    · exact ⟨_, _, rfl⟩
  · exact ⟨_, _, rfl⟩

set_option maxHeartbeats 1000000 in
theorem wRomanise (A : Option Addr) (n cap : Nat) (rs : List Ru) (A' : Option Addr) (n' cap' : Nat) (zs : List Int) (w : World) (hm : n ≤ maxLen) (h : RulesAt w w.heap.size A n rs) (hz : IsInts .i64 w A' n' cap' zs) :
    Calls Try.prog 3 #[.slice A n cap, .slice A' n' cap'] w fun e w' => e = .returned (.bool true) ∧ Below w.heap.size w w' := by
  obtain ⟨hm', hN⟩ := numAt_arg hz
  obtain ⟨xs, hxs⟩ : ∃ xs, xs = zs.take n' := ⟨_, rfl⟩
  rw [← hxs] at hN
  clear hz hxs
  have H := Lib.hid h
  have H' := Lib.hid hN
  have S1 := Lib.hid (cSzRs A n cap rs w hm h)
  clear h hN
  unfold maxLen at hm hm'
  by_cases hbig : 1048576 < n'
  · go_enter Try.func3, Try.ntmps3
    go_wp2
    go_ret
    exact ⟨rfl, Below.refl _ _⟩
  have hn' : n' ≤ 1048576 := by omega
  have HC : Hid (n' ≤ maxLen) := Lib.hid (by unfold maxLen; omega)
  go_enter Try.func3, Try.ntmps3
  go_wp2_with fail
  refine S1.out.mono ?_
  rintro e w1 ⟨r, hr, rfl, B1⟩
  by_cases hr0 : r < 0
  · have hr1 := hr.1
    clear hr
    go_wp2_with fail
    go_ret
    exact ⟨rfl, B1⟩
  have hn : n + bulk rs ≤ 1048576 := by
    rcases hr.2 with h | h
    · omega
    · exact h
  have hr1 := hr.1
  have hr2 : 0 ≤ r := by omega
  have HZ := Lib.hid (bulk_sizes hn)
  have HN := Lib.hid hn
  have HNN : Hid (n ≤ 1048576) := Lib.hid (by omega)
  obtain ⟨t, code, hV⟩ := romV_form rs xs
  have hd1 : (t.toList == t.toList) = true := by simp
  have hd2 : (code != code) = false := by simp
  have HV := Lib.hid hV
  clear hr hn hV
  go_wp2_with fail
  refine (cToRs A n cap rs w1 HN.out ((H.out.below B1 (Nat.le_refl _)).more B1.size)).mono ?_
  rintro e w2 ⟨es2, rfl, he2, O2, B2⟩
  have K2 := Lib.hid (O2.rules (by rw [he2]; exact HZ.out))
  rw [he2] at K2
  have B12 := B1.trans (B2.mono B1.size)
  clear O2
  go_wp2_with fail
  refine (tToI A' n' cap' xs w2 hn' ((H'.out.below B12 (Nat.le_refl _)).more B12.size)).mono ?_
  rintro e w3 ⟨rfl, N3, B3⟩
  have K3 := Lib.hid ((K2.out.below B3 (Nat.le_refl _)).more B3.size)
  have M3 := Lib.hid N3
  have B13 := B12.trans (B3.mono B12.size)
  clear N3
  go_wp2_with fail
  refine (show Calls Try.prog _ _ w3 (fun e w' => e = .returned (.tuple #[.string t, .int .i64 code]) ∧ Below w3.heap.size w3 w') from by have := cRoman_spec _ _ n n' n n' rs xs w3 HNN.out hn' (Nat.le_refl _) HC.out K3.out M3.out; rw [HV.out] at this; exact this).mono ?_
  rintro e w4 ⟨rfl, B4⟩
  have B14 := B13.trans (B4.mono B13.size)
  go_wp2_with fail
  refine (cToRs A n cap rs w4 HN.out ((H.out.below B14 (Nat.le_refl _)).more B14.size)).mono ?_
  rintro e w5 ⟨es5, rfl, he5, O5, B5⟩
  have K5 := Lib.hid (O5.rules (by rw [he5]; exact HZ.out))
  rw [he5] at K5
  have B15 := B14.trans (B5.mono B14.size)
  clear O5
  go_wp2_with fail
  refine (tToI A' n' cap' xs w5 hn' ((H'.out.below B15 (Nat.le_refl _)).more B15.size)).mono ?_
  rintro e w6 ⟨rfl, N6, B6⟩
  have K6 := Lib.hid ((K5.out.below B6 (Nat.le_refl _)).more B6.size)
  have M6 := Lib.hid N6
  have B16 := B15.trans (B6.mono B15.size)
  clear N6
  go_wp2_with fail
  refine (show Calls Try.prog _ _ w6 (fun e w' => e = .returned (.tuple #[.string t, .int .i64 code]) ∧ Below w6.heap.size w6 w') from by have := cRoman_impl _ _ n n' n n' rs xs w6 HNN.out hn' (Nat.le_refl _) HC.out K6.out M6.out; rw [HV.out] at this; exact this).mono ?_
  rintro e w7 ⟨rfl, B7⟩
  have B17 := B16.trans (B7.mono B16.size)
  have K7 := Lib.hid ((K6.out.below B7 (Nat.le_refl _)).more B7.size)
  have M7 := Lib.hid ((M6.out.below B7 (Nat.le_refl _)).more B7.size)
  go_wp2_with fail
  refine (cToRs A n cap rs w7 HN.out ((H.out.below B17 (Nat.le_refl _)).more B17.size)).mono ?_
  rintro e w8 ⟨es8, rfl, he8, O8, B8⟩
  have K8 := Lib.hid (O8.rules (by rw [he8]; exact HZ.out))
  rw [he8] at K8
  have B18 := B17.trans (B8.mono B17.size)
  clear O8
  go_wp2_with fail
  refine (cEqRs _ _ n n n rs w8 HN.out ((K7.out.below B8 (Nat.le_refl _)).more B8.size) K8.out).mono ?_
  rintro e w9 ⟨rfl, B9⟩
  have B19 := B18.trans (B9.mono B18.size)
  have M9 := Lib.hid ((M7.out.below (B8.trans (B9.mono B8.size)) (Nat.le_refl _)).more (Nat.le_trans B8.size B9.size))
  go_wp2_with fail
  refine (tToI A' n' cap' xs w9 hn' ((H'.out.below B19 (Nat.le_refl _)).more B19.size)).mono ?_
  rintro e w10 ⟨rfl, N10, B10⟩
  have M10 := Lib.hid N10
  have B110 := B19.trans (B10.mono B19.size)
  clear N10
  go_wp2_with fail
  refine (tEqI _ _ n' n' n' _ _ xs w10 hn' ((M9.out.below B10 (Nat.le_refl _)).more B10.size) M10.out).mono ?_
  rintro e w11 ⟨rfl, m, rfl⟩
  go_wp2_with fail
  go_ret
  exact ⟨rfl, below_drewR B110 m⟩
end Go.Proofs.Ytnodnjaajaemcab
