/-
  The contracts of laws.likeInts, likeRule, likeRules on equal rows.
-/
import Derived.Test.YtnfdbpfegmodcaaRules
import Derived.Test.YtnfdbpfegmodcaaRuleTo
namespace Go.Proofs.Ytnfdbpfegmodcaa
set_option linter.unusedVariables false
open Go.RowKit

theorem cLikeN_none (A A' : Option Addr) (cap cap' : Nat) (w : World) :
    Calls Try.prog 27 #[.slice A 0 cap, .slice A' 0 cap'] w fun e w' => e = .returned (.bool true) ∧ w = w' := by
  go_enter Try.func27, Try.ntmps27
  go_wp2
  refine wp_loop_rounds 1 ?_
  rw [rounds_succ]
  go_wp2
  go_ret
  exact ⟨rfl, rfl⟩
set_option maxHeartbeats 1000000 in
theorem cLikeN (A A' : Option Addr) (cap cap' n B B' : Nat) (xs : List Int) (w : World) (hbig : n ≤ 1099511627776) (h : NumAt w B A n xs) (h' : NumAt w B' A' n xs) :
    Calls Try.prog 27 #[.slice A n cap, .slice A' n cap'] w fun e w' => e = .returned (.bool true) ∧ Below w.heap.size w w' := by
  rcases Nat.eq_zero_or_pos n with rfl | hp
  · exact (cLikeN_none A A' cap cap' w).mono fun e w' ⟨he, hw⟩ => ⟨he, hw ▸ Below.refl _ _⟩
  have HN := Lib.hid h.1
  obtain ⟨g, o, rfl, _, h1⟩ := h.2 hp
  obtain ⟨g', o', rfl, _, h2⟩ := h'.2 hp
  have H1 := Lib.hid h1
  have H2 := Lib.hid h2
  clear h1 h2 h h'
  go_enter Try.func27, Try.ntmps27
  go_wp2
  go_loopw [5] (fun i wr => ∃ j m : Nat, j ≤ n ∧ i = .int .i64 j ∧ wr = w.drewN m) (fun i _ => n - (intOf i).toNat)
  case atStart => exact ⟨0, 0, Nat.zero_le _, rfl, rfl⟩
  case round =>
    obtain ⟨j, m, hj, rfl, rfl⟩ := hrel
    by_cases hlt : j < n
    · obtain ⟨x, hx⟩ : ∃ x, xs[j]? = some x := ⟨xs[j]'(by have := HN.out; omega), List.getElem?_eq_getElem _⟩
      have c1 : w.cell? ⟨g, o + j, none⟩ = some (.int .i64 x) := H1.out j x hx
      have c2 : w.cell? ⟨g', o' + j, none⟩ = some (.int .i64 x) := H2.out j x hx
      clear hx
      have e1 : (0 : Int) ≤ (j : Int) := Int.natCast_nonneg _
      have e2 : (j : Int) < (n : Int) := by omega
      have hd : (x != x) = false := by simp
      go_wp2
      go_quiet (fail)
      go_wp2
      go_roundw
      case rel => exact ⟨j + 1, _, by omega, by go_num, rfl⟩
      case measure => simp [intOf]; omega
    · go_wp2
      go_ret
      exact ⟨rfl, ⟨rfl, rfl, rfl, Nat.le_refl _, fun _ _ => rfl⟩⟩

set_option maxHeartbeats 1000000 in
theorem cLikeRu (A A' : Option Addr) (cap cap' n B B' : Nat) (q : Ru) (w : World) (hbig : n ≤ 1048576) (h : NumAt w B A n q.1) (h' : NumAt w B' A' n q.1) (hB : B ≤ w.heap.size) (hB' : B' ≤ w.heap.size) :
    Calls Try.prog 77 #[.agg #[.slice A n cap, .string q.2], .agg #[.slice A' n cap', .string q.2]] w fun e w' => e = .returned (.bool true) ∧ Below w.heap.size w w' := by
  obtain ⟨xs, s⟩ := q
  simp only at h h' ⊢
  have B0 : Below w.heap.size w ((w.alloc (.cells #[.slice A n cap, .string s] 35)).alloc (.cells #[.slice A' n cap', .string s] 35)) := ((Below.refl _ _).alloc (Nat.le_refl _) _).alloc (by simp) _
  have K1 := (PairAt.new w (.slice A n cap) (.string s) 35).alloc (.cells #[.slice A' n cap', .string s] 35)
  have K2 := PairAt.new (w.alloc (.cells #[.slice A n cap, .string s] 35)) (.slice A' n cap') (.string s) 35
  have hz : (w.alloc (.cells #[.slice A n cap, .string s] 35)).heap.size = w.heap.size + 1 := by simp
  rw [hz] at K2
  have CE := Lib.hid (cLikeN A A' cap cap' n B B' xs _ (by omega) (h.below B0 hB) (h'.below B0 hB'))
  have hd : (s.toList == s.toList) = true := by simp
  have HB := Lib.hid B0
  obtain ⟨_, a0, a1⟩ := K1
  obtain ⟨_, c0, c1⟩ := K2
  clear h h' B0 hz
  go_enter Try.func77, Try.ntmps77
  go_wp2_with (go_at_call 27; refine CE.out.mono ?_; rintro e w' ⟨rfl, hb1⟩)
  go_ret
  exact ⟨rfl, HB.out.trans (hb1.mono HB.out.size)⟩

set_option maxHeartbeats 1000000 in
set_option maxRecDepth 100000 in
theorem cLikeRs (A A' : Option Addr) (n cap cap' : Nat) (rs : List Ru) (w : World) (hn : n ≤ 1048576) (hr : ∀ r ∈ rs, r.1.length ≤ 1048576) (h1 : RulesAt w w.heap.size A n rs) (h2 : RulesAt w w.heap.size A' n rs) :
    Calls Try.prog 28 #[.slice A n cap, .slice A' n cap'] w fun e w' => e = .returned (.bool true) ∧ Below w.heap.size w w' := by
  have HL := Lib.hid h1.1
  have H1 := Lib.hid h1
  have H2 := Lib.hid h2
  have HR := Lib.hid hr
  clear h1 h2 hr
  go_enter Try.func28, Try.ntmps28
  go_wp2
  go_loopw [5] (fun i wr => ∃ j : Nat, j ≤ n ∧ i = .int .i64 j ∧ Below w.heap.size w wr) (fun i _ => n - (intOf i).toNat)
  case atStart => exact ⟨0, Nat.zero_le _, rfl, Below.refl _ _⟩
  case round =>
    obtain ⟨j, hj, rfl, hbw⟩ := hrel
    by_cases hlt : j < n
    · obtain ⟨q, hq⟩ : ∃ q, rs[j]? = some q := ⟨rs[j]'(by have := HL.out; omega), List.getElem?_eq_getElem _⟩
      have hq1 : q.1.length ≤ 1048576 := HR.out q (List.mem_of_getElem? hq)
      obtain ⟨b, o, rfl, hbl, A1, n1, c1, k0, k1, k2, k3, k4⟩ := (H1.out.below hbw (Nat.le_refl _)).row hq
      obtain ⟨b', o', rfl, hbl', A2, n2, c2, m0, m1, m2, m3, m4⟩ := (H2.out.below hbw (Nat.le_refl _)).row hq
      obtain rfl : n1 = n2 := by rw [k2.1, m2.1]
      have hn1 : n1 ≤ 1048576 := by rw [k2.1]; exact hq1
      have hws := hbw.size
      have CE := Lib.hid (fun (W : World) (hW : Below wr.heap.size wr W) => cLikeRu A1 A2 c1 c2 n1 w.heap.size w.heap.size q W hn1 (k2.below hW hws) (m2.below hW hws) (Nat.le_trans hws hW.size) (Nat.le_trans hws hW.size))
      have hb1 : b < wr.heap.size := by omega
      have hb2 : b' < wr.heap.size := by omega
      have HB := Lib.hid hbw
      clear hq hq1 k2 k3 k4 m2 m3 m4 hbw hws
      have e1 : (0 : Int) ≤ (j : Int) := Int.natCast_nonneg _
      have e2 : (j : Int) < (n : Int) := by omega
      go_wp2
      go_region_held3 (fun W => W.cell? ⟨b, o + j * 2, none⟩ = some (.slice A1 n1 c1) ∧ W.cell? ⟨b, o + j * 2 + 1, none⟩ = some (.string q.2) ∧ W.cell? ⟨b', o' + j * 2, none⟩ = some (.slice A2 n1 c2) ∧ W.cell? ⟨b', o' + j * 2 + 1, none⟩ = some (.string q.2) ∧ b < W.heap.size ∧ b' < W.heap.size ∧ Below wr.heap.size wr W)
        (first | (exact ⟨k0, k1, m0, m1, hb1, hb2, (Below.refl _ _).drew⟩) | (exact FourR.keep (A0 := wr) (by assumption) hb) | assumption)
        ((go_at_call 77; refine (CE.out _ (FourR.get (A0 := wr) (show FourR wr b (o + j * 2) (.slice A1 n1 c1) (.string q.2) b' (o' + j * 2) (.slice A2 n1 c2) (.string q.2) _ by assumption))).mono ?_; rintro e w1 ⟨rfl, hb⟩))
      all_goals
        have hq2 : Below wr.heap.size wr w1 := FourR.get (show FourR wr b (o + j * 2) (.slice A1 n1 c1) (.string q.2) b' (o' + j * 2) (.slice A2 n1 c2) (.string q.2) w1 by assumption)
        go_wp2
        go_roundw
        case rel => exact ⟨j + 1, by omega, by go_num, HB.out.trans (hq2.mono HB.out.size)⟩
        case measure => simp [intOf]; omega
    · go_wp2
      go_ret
      exact ⟨rfl, hbw⟩
end Go.Proofs.Ytnfdbpfegmodcaa
