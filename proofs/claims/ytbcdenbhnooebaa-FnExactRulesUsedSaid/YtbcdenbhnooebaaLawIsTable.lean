/-
  The law of IsTable: its call answers true, and nothing that was there changes.
-/
import Derived.Test.YtbcdenbhnooebaaFinder
import Derived.Test.YtbcdenbhnooebaaTableS
namespace Go.Proofs.Ytbcdenbhnooebaa
set_option linter.unusedVariables false
open Go.RowKit

theorem bulk_sizes {n : Nat} {rs : List Ru} (h : n + bulk rs ≤ 1048576) : ∀ r ∈ rs, r.1.length ≤ maxLen ∧ r.2.size ≤ maxLen := by
  intro r hr
  have := bulk_mem hr
  unfold maxLen
  omega

set_option maxHeartbeats 1000000 in
theorem wIsTable (A : Option Addr) (n cap : Nat) (rs : List Ru) (w : World) (hm : n ≤ maxLen) (h : RulesAt w w.heap.size A n rs) :
    Calls Try.prog 4 #[.slice A n cap] w fun e w' => e = .returned (.bool true) ∧ Below w.heap.size w w' := by
  have H := Lib.hid h
  have S1 := Lib.hid (cSzRs A n cap rs w hm h)
  clear h
  unfold maxLen at hm
  go_enter Try.func4, Try.ntmps4
  go_wp2_with fail
  refine S1.out.mono ?_
  rintro e w1 ⟨r, hr, rfl, B1⟩
  by_cases hr0 : r < 0
  · have hr1 := hr.1
    clear hr
    go_wp2_with fail
    go_ret
    exact ⟨rfl, B1⟩
  have hn : n + bulk rs ≤ 1048576 := by
    rcases hr.2 with h | h
    · omega
    · exact h
  have hr1 := hr.1
  have hr2 : 0 ≤ r := by omega
  have HM : Hid (n ≤ maxLen) := Lib.hid (by unfold maxLen; omega)
  have HZ := Lib.hid (bulk_sizes hn)
  have HN := Lib.hid hn
  clear hr hn
  go_wp2_with fail
  refine (cToRs A n cap rs w1 HN.out ((H.out.below B1 (Nat.le_refl _)).more B1.size)).mono ?_
  rintro e w2 ⟨es2, rfl, he2, O2, B2⟩
  have K2 := Lib.hid (O2.rules (by rw [he2]; exact HZ.out))
  rw [he2] at K2
  have B12 := B1.trans (B2.mono B1.size)
  clear O2
  go_wp2_with fail
  refine (cIsTable_spec _ n n _ rs w2 HM.out K2.out (Nat.le_refl _)).mono ?_
  rintro e w3 ⟨rfl, B3⟩
  have B13 := B12.trans (B3.mono B12.size)
  go_wp2_with fail
  refine (cToRs A n cap rs w3 HN.out ((H.out.below B13 (Nat.le_refl _)).more B13.size)).mono ?_
  rintro e w4 ⟨es4, rfl, he4, O4, B4⟩
  have K4 := Lib.hid (O4.rules (by rw [he4]; exact HZ.out))
  rw [he4] at K4
  have B14 := B13.trans (B4.mono B13.size)
  clear O4
  go_wp2_with fail
  refine (cIsTable _ n n rs w4 HM.out K4.out).mono ?_
  rintro e w5 ⟨rfl, B5⟩
  have B15 := B14.trans (B5.mono B14.size)
  have hd : (tableB rs != tableB rs) = false := by simp
  go_wp2_with fail
  refine (cToRs A n cap rs w5 HN.out ((H.out.below B15 (Nat.le_refl _)).more B15.size)).mono ?_
  rintro e w6 ⟨es6, rfl, he6, O6, B6⟩
  have K6 := Lib.hid (O6.rules (by rw [he6]; exact HZ.out))
  rw [he6] at K6
  have B16 := B15.trans (B6.mono B15.size)
  clear O6
  go_wp2_with fail
  refine (cEqRs _ _ n n n rs w6 HN.out ((((K4.out.below B5 (Nat.le_refl _)).more B5.size).below B6 (Nat.le_refl _)).more B6.size) K6.out).mono ?_
  rintro e w7 ⟨rfl, B7⟩
  go_wp2_with fail
  go_ret
  exact ⟨rfl, B16.trans (B7.mono B16.size)⟩
end Go.Proofs.Ytbcdenbhnooebaa
