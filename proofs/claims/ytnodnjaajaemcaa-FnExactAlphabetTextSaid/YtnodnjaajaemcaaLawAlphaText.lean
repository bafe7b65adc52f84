/-
  The law of AlphabetText: its call answers true, and nothing that was there changes.
-/
import Derived.Test.YtnodnjaajaemcaaAlphaText
namespace Go.Proofs.Ytnodnjaajaemcaa
set_option linter.unusedVariables false
open Go.RowKit

set_option maxHeartbeats 1000000 in
theorem wAlphaText (a : Option Addr) (n cap : Nat) (zs : List ByteArray) (w : World) (h : IsStrs w a n cap zs) :
    Calls Try.prog 3 #[.slice a n cap] w fun e w' => e = .returned (.bool true) ∧ Below w.heap.size w w' := by
  obtain ⟨hm, hs, ht⟩ := textAt_arg h
  clear h
  obtain ⟨xs, hxs⟩ : ∃ xs, xs = zs.take n := ⟨_, rfl⟩
  rw [← hxs] at hs ht
  clear hxs
  have HS := Lib.hid hs
  have HT := Lib.hid ht
  have S1 := Lib.hid (tSz a n cap _ xs w hm hs ht)
  clear hs ht
  unfold maxLen at hm
  go_enter Try.func3, Try.ntmps3
  go_wp2_with fail
  refine S1.out.mono ?_
  rintro e w' ⟨r, hr, rfl, rfl⟩
  by_cases hr0 : r < 0
  · have hr1 := hr.1
    clear hr
    go_wp2_with fail
    go_ret
    exact ⟨rfl, Below.refl _ _⟩
  · obtain ⟨hn1, hs1⟩ : n ≤ 1048576 ∧ ∀ x ∈ xs, x.size ≤ 1048576 := by
      rcases hr.2 with h | h
      · omega
      · exact h
    have hr1 := hr.1
    have hr2 : 0 ≤ r := by omega
    clear hs1 hr
    go_wp2_with fail
    refine (tToS a n cap xs w hn1 HT.out).mono ?_
    rintro e w1 ⟨rfl, T1, _, B1⟩
    have K1 := Lib.hid T1; clear T1
    go_wp2_with fail
    refine (tAlphaText_spec _ n n _ xs w1 hn1 HS.out K1.out).mono ?_
    rintro e w' ⟨rfl, rfl⟩
    cases ha : alphaB xs
    all_goals
      first | rw [alphaTextV_no _ ha] | rw [alphaTextV_yes _ ha]
      have HJ := Lib.hid ha
      clear ha
      go_wp2_with fail
      refine (tToS a n cap xs w1 hn1 ((HT.out.below B1 (Nat.le_refl _)).more B1.size)).mono ?_
      rintro e w2 ⟨rfl, T2, _, B2⟩
      have K2 := Lib.hid T2; clear T2
      have B12 := B1.trans (B2.mono B1.size)
      have CI := Lib.hid (tAlphaText _ n n xs w2 hn1 (Nat.le_refl _) HS.out K2.out)
      first | rw [alphaTextV_no _ HJ.out] at CI | rw [alphaTextV_yes _ HJ.out] at CI
      go_wp2_with fail
      refine CI.out.mono ?_
      rintro e w3 ⟨rfl, B3⟩
      have B13 := B12.trans (B3.mono B12.size)
      go_wp2_with fail
      refine (tToS a n cap xs w3 hn1 ((HT.out.below B13 (Nat.le_refl _)).more B13.size)).mono ?_
      rintro e w4 ⟨rfl, T4, _, B4⟩
      have K4 := Lib.hid T4; clear T4
      have B14 := B13.trans (B4.mono B13.size)
      go_wp2_with fail
      refine (tEqS w1.heap.size n w3.heap.size n n _ _ xs w4 hn1 ((K2.out.below B3 (Nat.le_refl _)).below B4 B3.size) K4.out).mono ?_
      rintro e w' ⟨rfl, m, rfl⟩
      go_wp2_with fail
      go_ret
      exact ⟨rfl, below_drN B14 m⟩
end Go.Proofs.Ytnodnjaajaemcaa
