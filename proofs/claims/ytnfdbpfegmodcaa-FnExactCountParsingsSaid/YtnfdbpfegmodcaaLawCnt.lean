/-
  The law of CountParsings: its call answers true.
-/
import Derived.Test.YtnfdbpfegmodcaaCntP
import Derived.Test.YtnfdbpfegmodcaaRules
namespace Go.Proofs.Ytnfdbpfegmodcaa
set_option linter.unusedVariables false
open Go.RowKit

theorem bulk_sizes {n : Nat} {rs : List Ru} (h : n + bulk rs ≤ 1048576) : ∀ r ∈ rs, r.1.length ≤ maxLen ∧ r.2.size ≤ maxLen := by
  intro r hr
  have := bulk_mem hr
  unfold maxLen; omega

set_option maxHeartbeats 1000000 in
theorem wCnt (A : Option Addr) (n cap : Nat) (rs : List Ru) (s : ByteArray) (w : World) (hm : n ≤ maxLen) (h : RulesAt w w.heap.size A n rs) (hs : s.size ≤ maxLen) :
    Calls Try.prog 5 #[.slice A n cap, .string s] w fun e w' => e = .returned (.bool true) ∧ Below w.heap.size w w' := by
  have H := Lib.hid h
  have S1 := Lib.hid (cSzRs A n cap rs w hm h)
  have HS := Lib.hid hs
  clear h
  unfold maxLen at hm hs
  by_cases hbig : 1048576 < s.size
  · go_enter Try.func5, Try.ntmps5
    go_wp2
    go_ret
    exact ⟨rfl, Below.refl _ _⟩
  go_enter Try.func5, Try.ntmps5
  go_wp2_with fail
  refine S1.out.mono ?_
  rintro e w1 ⟨r, hr, rfl, B1⟩
  by_cases hr0 : r < 0
  · have hr1 := hr.1
    clear hr
    go_wp2_with fail
    go_ret
    exact ⟨rfl, B1⟩
  have hn : n + bulk rs ≤ 1048576 := by
    rcases hr.2 with h | h
    · omega
    · exact h
  have hr1 := hr.1
  have hr2 : 0 ≤ r := by omega
  have HZ := Lib.hid (bulk_sizes hn)
  have HN := Lib.hid hn
  have HNN : Hid (n ≤ maxLen) := Lib.hid (by unfold maxLen; omega)
  obtain ⟨x, hx⟩ : ∃ x, x = cntN rs s := ⟨_, rfl⟩
  obtain ⟨y, hy⟩ : ∃ y, y = cntE rs s := ⟨_, rfl⟩
  have hd1 : (x != x) = false := by simp
  have hd2 : (y != y) = false := by simp
  have HX := Lib.hid hx
  have HY := Lib.hid hy
  clear hr hn hx hy
  go_wp2_with fail
  refine (cToRs A n cap rs w1 HN.out ((H.out.below B1 (Nat.le_refl _)).more B1.size)).mono ?_
  rintro e w2 ⟨es2, rfl, he2, O2, B2⟩
  have K2 := Lib.hid (O2.rules (by rw [he2]; exact HZ.out))
  rw [he2] at K2
  have B12 := B1.trans (B2.mono B1.size)
  clear O2
  go_wp2_with fail
  refine (show Calls Try.prog _ _ w2 (fun e w' => e = .returned (.tuple #[.int .i64 x, .int .i64 y]) ∧ Below w2.heap.size w2 w') from by rw [HX.out, HY.out]; exact cCnt_spec _ n n rs s w2 HNN.out HS.out K2.out).mono ?_
  rintro e w4 ⟨rfl, B4⟩
  have B14 := B12.trans (B4.mono B12.size)
  go_wp2_with fail
  refine (cToRs A n cap rs w4 HN.out ((H.out.below B14 (Nat.le_refl _)).more B14.size)).mono ?_
  rintro e w5 ⟨es5, rfl, he5, O5, B5⟩
  have K5 := Lib.hid (O5.rules (by rw [he5]; exact HZ.out))
  rw [he5] at K5
  have B15 := B14.trans (B5.mono B14.size)
  clear O5
  go_wp2_with fail
  refine (show Calls Try.prog _ _ w5 (fun e w' => e = .returned (.tuple #[.int .i64 x, .int .i64 y]) ∧ Below w5.heap.size w5 w') from by rw [HX.out, HY.out]; exact cCnt_impl _ n n rs s w5 HNN.out HS.out K5.out).mono ?_
  rintro e w7 ⟨rfl, B7⟩
  have B17 := B15.trans (B7.mono B15.size)
  have K7 := Lib.hid ((K5.out.below B7 (Nat.le_refl _)).more B7.size)
  go_wp2_with fail
  refine (cToRs A n cap rs w7 HN.out ((H.out.below B17 (Nat.le_refl _)).more B17.size)).mono ?_
  rintro e w8 ⟨es8, rfl, he8, O8, B8⟩
  have K8 := Lib.hid (O8.rules (by rw [he8]; exact HZ.out))
  rw [he8] at K8
  have B18 := B17.trans (B8.mono B17.size)
  clear O8
  go_wp2_with fail
  refine (cEqRs _ _ n n n rs w8 HN.out ((K7.out.below B8 (Nat.le_refl _)).more B8.size) K8.out).mono ?_
  rintro e w9 ⟨rfl, B9⟩
  have B19 := B18.trans (B9.mono B18.size)
  go_wp2_with fail
  go_ret
  exact ⟨rfl, B19⟩
end Go.Proofs.Ytnfdbpfegmodcaa
