/-
  The law of JoinPhrase: its call answers true, and nothing that was there changes.
-/
import Derived.Test.YtkijjgjbpjkbfaaJoinPhrase
namespace Go.Proofs.Ytkijjgjbpjkbfaa
set_option linter.unusedVariables false
open Go.RowKit

theorem below_dr1 {B : Nat} {a w : World} (h : Below B a w) (n : Nat) : Below B a (w.drewN n) := ⟨h.os, h.tape, h.output, h.size, h.block⟩
theorem wJoin_none (A : Option Addr) (cap : Nat) (w : World) :
    Calls Try.prog 3 #[.slice A 0 cap] w fun e w' => e = .returned (.bool true) ∧ Below w.heap.size w w' := by
  go_enter Try.func3, Try.ntmps3
  go_wp2_with fail
  refine (cSzS_none _ _ _).mono ?_
  rintro e w' ⟨rfl, rfl⟩
  go_wp2_with fail
  refine (cToS_none _ _ _).mono ?_
  rintro e w1 ⟨rfl, hb1⟩
  go_wp2_with fail
  refine (cJP_spec_none _ _ _).mono ?_
  rintro e w' ⟨rfl, rfl⟩
  go_wp2_with fail
  refine (cToS_none _ _ _).mono ?_
  rintro e w2 ⟨rfl, hb2⟩
  have hb12 := hb1.trans (hb2.mono hb1.size)
  go_wp2_with fail
  refine (cJP_impl_none _ _ _).mono ?_
  rintro e w' ⟨rfl, rfl⟩
  go_wp2_with fail
  refine (cToS_none _ _ _).mono ?_
  rintro e w3 ⟨rfl, hb3⟩
  have hb13 := hb12.trans (hb3.mono hb12.size)
  go_wp2_with fail
  refine (cEqS_none _ _ _ _ _).mono ?_
  rintro e w' ⟨rfl, rfl⟩
  go_wp2_with fail
  go_ret
  exact ⟨rfl, hb13⟩

set_option maxHeartbeats 1000000 in
theorem wJoin_some (b o n cap : Nat) (xs : List ByteArray) (w : World) (hn : n = xs.length) (hpos : 0 < n) (hbig : n ≤ maxLen) (hb : b < w.heap.size) (hsz : ∀ x ∈ xs, x.size ≤ maxLen)
    (hc : ∀ (j : Nat) x, xs[j]? = some x → w.cell? ⟨b, o + j, none⟩ = some (.string x)) :
    Calls Try.prog 3 #[.slice (some ⟨b, o, none⟩) n cap] w fun e w' => e = .returned (.bool true) ∧ Below w.heap.size w w' := by
  have HN := Lib.hid hn
  have HS := Lib.hid hsz
  have HC := Lib.hid hc
  have S1 := Lib.hid (cSzS b o n cap xs w hn hbig hsz hc)
  have hbig' := hbig
  unfold maxLen at hbig'
  have HB := Lib.hid hbig
  clear hn hsz hc hbig
  go_enter Try.func3, Try.ntmps3
  go_wp2_with fail
  refine S1.out.mono ?_
  rintro e w' ⟨r, hr, rfl, rfl⟩
  by_cases hr0 : r < 0
  · have hr1 := hr.1
    clear hr
    go_wp2_with fail
    go_ret
    exact ⟨rfl, Below.refl _ _⟩
  · obtain ⟨hn1, hs1⟩ : n ≤ 1048576 ∧ ∀ x ∈ xs, x.size ≤ 1048576 := by
      rcases hr.2 with h | h
      · omega
      · exact h
    have hr1 := hr.1
    have hr2 : 0 ≤ r := by omega
    clear hs1 hr
    have cellsOf : ∀ (W : World) (base g : Nat), W.ownsRow base 9 1 (.slice (some ⟨g, 0, none⟩) n n) n (vals xs) → ∀ (j : Nat) x, xs[j]? = some x → W.cell? ⟨g, j, none⟩ = some (.string x) := fun W base g h j x hx => (h.cellAt j (by have := (List.getElem?_eq_some_iff.1 hx).1; have := HN.out; omega)).trans (vals_at _ _ _ hx)
    have KC := Lib.hid cellsOf
    clear cellsOf
    go_wp2_with fail
    refine (cToS b o n cap xs w HN.out hn1 hb HC.out).mono ?_
    rintro e w1 ⟨rfl, own1, hb1⟩
    have hl1 : w.heap.size < w1.heap.size := (own1.lt _ rfl).2
    have K1 := Lib.hid (KC.out _ _ _ own1)
    clear own1
    go_wp2_with fail
    refine (cJP_spec w.heap.size n n xs w1 HN.out hpos hn1 HS.out (by intro j x hx; rw [Nat.zero_add]; exact K1.out j x hx)).mono ?_
    rintro e w' ⟨rfl, rfl⟩
    cases hj : joinOk xs
    all_goals
      first | rw [joinV_no _ hj] | rw [joinV_yes _ hj]
      have HJ := Lib.hid hj
      clear hj
      go_wp2_with fail
      refine (cToS b o n cap xs w1 HN.out hn1 (Nat.lt_of_lt_of_le hb hb1.size) (fun j x hx => (hb1.cell (by exact hb)).trans (HC.out j x hx))).mono ?_
      rintro e w2 ⟨rfl, own2, hb2⟩
      have hl2 : w1.heap.size < w2.heap.size := (own2.lt _ rfl).2
      have K2 := Lib.hid (KC.out _ _ _ own2)
      have hb12 := hb1.trans (hb2.mono hb1.size)
      clear own2
      have CI := Lib.hid (cJP_impl w1.heap.size n n xs w2 HN.out hpos hn1 (Nat.le_refl _) HS.out hl2 (by intro j x hx; rw [Nat.zero_add]; exact K2.out j x hx))
      first | rw [joinV_no _ HJ.out] at CI | rw [joinV_yes _ HJ.out] at CI
      go_wp2_with fail
      refine CI.out.mono ?_
      rintro e w3 ⟨rfl, hb3⟩
      have hb13 := hb12.trans (hb3.mono hb12.size)
      go_wp2_with fail
      refine (cToS b o n cap xs w3 HN.out hn1 (Nat.lt_of_lt_of_le hb hb13.size) (fun j x hx => (hb13.cell (by exact hb)).trans (HC.out j x hx))).mono ?_
      rintro e w4 ⟨rfl, own4, hb4⟩
      have K4 := Lib.hid (KC.out _ _ _ own4)
      have hb14 := hb13.trans (hb4.mono hb13.size)
      clear own4
      go_wp2_with fail
      refine (cEqS w1.heap.size n w3.heap.size n n xs w4 HN.out (by omega) (fun j x hx => (hb4.cell (Nat.lt_of_lt_of_le hl2 hb3.size)).trans ((hb3.cell hl2).trans (K2.out j x hx))) K4.out).mono ?_
      rintro e w' ⟨rfl, m, rfl⟩
      go_wp2_with fail
      go_ret
      exact ⟨rfl, below_dr1 hb14 m⟩

theorem wJoinPhrase (a : Option Addr) (n cap : Nat) (zs : List ByteArray) (w : World) (h : IsStrs w a n cap zs) :
    Calls Try.prog 3 #[.slice a n cap] w fun e w' => e = .returned (.bool true) ∧ Below w.heap.size w w' := by
  rcases Nat.eq_zero_or_pos n with rfl | hp
  · exact wJoin_none a cap w
  · obtain ⟨b, o, rfl, hb, hl, hm, hc, hs⟩ := h.row hp
    exact wJoin_some b o n cap (zs.take n) w hl.symm hp hm hb hs hc
end Go.Proofs.Ytkijjgjbpjkbfaa
