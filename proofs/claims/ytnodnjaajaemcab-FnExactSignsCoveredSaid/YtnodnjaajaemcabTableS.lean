/-
  The contracts of spec.l01Same, spec.l04Find and spec.IsTable.
-/
import Derived.Test.YtnodnjaajaemcabRules
namespace Go.Proofs.Ytnodnjaajaemcab
set_option linter.unusedVariables false
open Go.RowKit

theorem below_drewR {B : Nat} {a w : World} (h : Below B a w) (m : Nat) : Below B a (w.drewN m) := ⟨h.os, h.tape, h.output, h.size, h.block⟩
theorem cSame_none (A A' : Option Addr) (c c' : Nat) (w : World) :
    Calls Try.prog 38 #[.slice A 0 c, .slice A' 0 c'] w fun e w' => e = .returned (.bool true) ∧ w = w' := by
  go_enter Try.func38, Try.ntmps38
  go_wp2
  refine wp_loop_rounds 1 ?_
  rw [rounds_succ]
  go_wp2
  go_ret
  exact ⟨rfl, rfl⟩
theorem take_differs {xs ys : List Int} {k : Nat} {x y : Int} (h1 : xs[k]? = some x) (h2 : ys[k]? = some y) (h : x ≠ y) : xs ≠ ys := by
  rintro rfl; rw [h1] at h2; exact h (by simpa using h2)
set_option maxHeartbeats 1000000 in
set_option maxRecDepth 100000 in
theorem cSame (A A' : Option Addr) (n n' c c' B B' : Nat) (xs ys : List Int) (w : World) (hb : n ≤ maxLen) (hb' : n' ≤ maxLen) (h1 : NumAt w B A n xs) (h2 : NumAt w B' A' n' ys) :
    Calls Try.prog 38 #[.slice A n c, .slice A' n' c'] w fun e w' => e = .returned (.bool (decide (xs = ys))) ∧ ∃ m, w' = w.drewN m := by
  unfold maxLen at hb hb'
  by_cases hl : n = n'
  · subst hl
    rcases Nat.eq_zero_or_pos n with rfl | hp
    · refine (cSame_none A A' c c' w).mono ?_
      rintro e w' ⟨rfl, rfl⟩
      have e1 : xs = [] := List.length_eq_zero_iff.1 h1.1.symm
      have e2 : ys = [] := List.length_eq_zero_iff.1 h2.1.symm
      exact ⟨by rw [e1, e2]; rfl, 0, rfl⟩
    obtain ⟨b, o, rfl, _, hc⟩ := h1.2 hp
    obtain ⟨b', o', rfl, _, hc'⟩ := h2.2 hp
    have HL := Lib.hid h1.1
    have HL' := Lib.hid h2.1
    have H1 := Lib.hid hc
    have H2 := Lib.hid hc'
    clear h1 h2 hc hc'
    go_enter Try.func38, Try.ntmps38
    go_wp2
    go_loopw [5] (fun i wr => ∃ j m : Nat, j ≤ n ∧ i = .int .i64 j ∧ wr = w.drewN m ∧ Hid (xs.take j = ys.take j)) (fun i _ => n - (intOf i).toNat)
    case atStart => exact ⟨0, 0, Nat.zero_le _, rfl, rfl, Lib.hid (by simp)⟩
    case round =>
      obtain ⟨j, m, hj, rfl, rfl, HT⟩ := hrel
      by_cases hlt : j < n
      · obtain ⟨x, hx⟩ : ∃ x, xs[j]? = some x := ⟨xs[j]'(by have := HL.out; omega), List.getElem?_eq_getElem _⟩
        obtain ⟨y, hy⟩ : ∃ y, ys[j]? = some y := ⟨ys[j]'(by have := HL'.out; omega), List.getElem?_eq_getElem _⟩
        have c1 : w.cell? ⟨b, o + j, none⟩ = some (.int .i64 x) := H1.out j x hx
        have c2 : w.cell? ⟨b', o' + j, none⟩ = some (.int .i64 y) := H2.out j y hy
        have HX := Lib.hid hx
        have HY := Lib.hid hy
        clear hx hy
        have e1 : (0 : Int) ≤ (j : Int) := Int.natCast_nonneg _
        have e2 : (j : Int) < (n : Int) := by omega
        by_cases he : x = y
        · have hd : (x != y) = false := by simp [he]
          have HT2 : Hid (xs.take (j + 1) = ys.take (j + 1)) := Lib.hid (by rw [takeK_snoc HX.out, takeK_snoc HY.out, HT.out, he])
          clear he
          go_wp2
          go_quiet (fail)
          go_wp2
          go_roundw
          case rel => exact ⟨j + 1, _, by omega, by go_num, rfl, HT2⟩
          case measure => simp [intOf]; omega
        · have hd : (x != y) = true := by simpa using he
          have HN := Lib.hid (take_differs HX.out HY.out he)
          clear he
          go_wp2
          go_quiet (fail)
          go_wp2
          go_ret
          exact ⟨ret_bool (decide_eq_false HN.out).symm, _, World.drewN_drewN _ _ _⟩
      · have HN : Hid (xs = ys) := Lib.hid (by
          have := HT.out
          rwa [List.take_of_length_le (by have := HL.out; omega), List.take_of_length_le (by have := HL'.out; omega)] at this)
        go_wp2
        go_ret
        exact ⟨ret_bool (decide_eq_true HN.out).symm, _, rfl⟩
  · have HN : Hid (xs ≠ ys) := Lib.hid (by rintro rfl; exact hl (h1.1.trans h2.1.symm))
    have hd : ((n : Int) != (n' : Int)) = true := by simp; omega
    have hd2 : (n != n') = true := by simpa using hl
    go_enter Try.func38, Try.ntmps38
    go_wp2
    go_ret
    exact ⟨ret_bool (decide_eq_false HN.out).symm, 0, rfl⟩

set_option maxHeartbeats 1000000 in
theorem cFindK (A A' : Option Addr) (n n' c c' B B' : Nat) (rs : List Ru) (xs : List Int) (w : World) (hb : n ≤ maxLen) (hb' : n' ≤ maxLen) (h1 : RulesAt w B A n rs) (h2 : NumAt w B' A' n' xs) :
    Calls Try.prog 25 #[.slice A n c, .slice A' n' c'] w fun e w' => e = .returned (.int .i64 (findK (keys rs) xs)) ∧ ∃ m, w' = w.drewN m := by
  unfold maxLen at hb
  have HL := Lib.hid h1.1
  have H1 := Lib.hid h1
  have H2 := Lib.hid h2
  clear h1 h2
  go_enter Try.func25, Try.ntmps25
  go_wp2
  go_loopw [5] (fun i wr => ∃ k m : Nat, k ≤ n ∧ i = .int .i64 k ∧ wr = w.drewN m ∧ Hid (xs ∉ (keys rs).take k)) (fun i _ => n - (intOf i).toNat)
  case atStart => exact ⟨0, 0, Nat.zero_le _, rfl, rfl, Lib.hid (by simp)⟩
  case round =>
    obtain ⟨k, m, hk, rfl, rfl, HA⟩ := hrel
    by_cases hlt : k < n
    · obtain ⟨q, hq⟩ : ∃ q, rs[k]? = some q := ⟨rs[k]'(by have := HL.out; omega), List.getElem?_eq_getElem _⟩
      obtain ⟨b, o, rfl, hbl, A1, n1, c1, k0, k1, k2, k3, k4⟩ := H1.out.row hq
      have k0' : (w.drewN m).cell? ⟨b, o + k * 2, none⟩ = some (.slice A1 n1 c1) := k0
      have CS := Lib.hid (cSame A1 A' n1 n' c1 c' B B' q.1 xs (w.drewN m) k3 hb' k2 H2.out)
      have HK := Lib.hid (keys_at hq)
      clear hq k2 k3 k4 k1 k0
      by_cases he : q.1 = xs
      · rw [decide_eq_true he] at CS
        have HX : Hid (findK (keys rs) xs = (k : Int)) := Lib.hid (findK_hit _ k xs (by rw [← he]; exact HK.out) HA.out)
        clear he
        go_wp2_with (go_at_call 38; refine CS.out.mono ?_; rintro e w' ⟨rfl, m', rfl⟩)
        go_ret
        exact ⟨ret_int HX.out.symm, m + m', rfl⟩
      · rw [decide_eq_false he] at CS
        have HX : Hid (xs ∉ (keys rs).take (k + 1)) := Lib.hid (by
          rw [takeK_snoc HK.out, List.mem_append, List.mem_singleton]
          rintro (h | h)
          · exact HA.out h
          · exact he h.symm)
        clear he
        go_wp2_with (go_at_call 38; refine CS.out.mono ?_; rintro e w' ⟨rfl, m', rfl⟩)
        go_roundw
        case rel => exact ⟨k + 1, m + m', by omega, by go_num, rfl, HX⟩
        case measure => simp [intOf]; omega
    · go_wp2
      go_ret
      exact ⟨ret_int (findK_miss _ _ (by have := HA.out; rwa [List.take_of_length_le (by have := HL.out; have := keys_len rs; omega)] at this)).symm, m, rfl⟩

set_option maxHeartbeats 1000000 in
theorem cIsTable_spec (A : Option Addr) (n c B : Nat) (rs : List Ru) (w : World) (hb : n ≤ maxLen) (h : RulesAt w B A n rs) (hB : B ≤ w.heap.size) :
    Calls Try.prog 24 #[.slice A n c] w fun e w' => e = .returned (.bool (tableB rs)) ∧ Below w.heap.size w w' := by
  have HL := Lib.hid h.1
  have H := Lib.hid h
  have hb0 := hb
  unfold maxLen at hb
  clear h
  go_enter Try.func24, Try.ntmps24
  go_wp2
  go_loopw [3] (fun i wr => ∃ k : Nat, k ≤ n ∧ i = .int .i64 k ∧ Hid (goodT (rs.take k) = true) ∧ Below w.heap.size w wr) (fun i _ => n - (intOf i).toNat)
  case atStart => exact ⟨0, Nat.zero_le _, rfl, Lib.hid (goodT_zero rs), Below.refl _ _⟩
  case round =>
    obtain ⟨k, hk, rfl, HA, hbw⟩ := hrel
    by_cases hlt : k < n
    · obtain ⟨q, hq⟩ : ∃ q, rs[k]? = some q := ⟨rs[k]'(by have := HL.out; omega), List.getElem?_eq_getElem _⟩
      have HR := Lib.hid (H.out.below hbw hB)
      obtain ⟨b, o, rfl, hbl, A1, n1, c1, k0, k1, k2, k3, k4⟩ := HR.out.row hq
      have CI := Lib.hid (cIsRule_spec A1 n1 c1 B q wr k3 k4 k2 (by have := hbw.size; omega))
      have HQ := Lib.hid hq
      have HB := Lib.hid hbw
      cases hr : ruleB q
      · rw [hr] at CI
        have HX := Lib.hid (table_bad (goodT_bad HQ.out hr))
        clear hq k2 k3 k4 hr hbw
        go_wp2_with (go_at_call 37; refine CI.out.mono ?_; rintro e w1 ⟨rfl, hb1⟩)
        go_ret
        exact ⟨ret_bool HX.out.symm, HB.out.trans (hb1.mono HB.out.size)⟩
      · rw [hr] at CI
        have HRU := Lib.hid hr
        have hws : B ≤ wr.heap.size := by have := hbw.size; omega
        have CF := Lib.hid (fun (W : World) (hW : Below wr.heap.size wr W) => cFindK (some ⟨b, o, none⟩) A1 n n1 c c1 B B rs q.1 W hb0 k3 (HR.out.below hW hws) (k2.below hW hws))
        have k0b : ∀ W, Below wr.heap.size wr W → W.cell? ⟨b, o + k * 2, none⟩ = some (.slice A1 n1 c1) := fun W hW => (hW.cell (p := ⟨b, o + k * 2, none⟩) (by show b < _; omega)).trans k0
        have K0 := Lib.hid k0b
        by_cases hm : q.1 ∈ (keys rs).take k
        · have hf : (findK (keys rs) q.1 != (k : Int)) = true := by rw [bne_iff_ne]; exact findK_earlier _ k _ (keys_at hq) hm
          have HX := Lib.hid (table_bad (goodT_twice HQ.out hm))
          clear hq k2 k3 k4 hr hbw hm k0b hws
          go_wp2_with (first
            | (go_at_call 37; refine CI.out.mono ?_; rintro e w1 ⟨rfl, hb1⟩; have k9 := K0.out _ hb1)
            | (go_at_call 25; refine (CF.out _ hb1).mono ?_; rintro e w2 ⟨rfl, m, rfl⟩))
          go_ret
          exact ⟨ret_bool HX.out.symm, below_drewR (HB.out.trans (hb1.mono HB.out.size)) _⟩
        · have hf : (findK (keys rs) q.1 != (k : Int)) = false := by rw [bne_eq_false_iff_eq]; exact findK_hit _ k _ (keys_at hq) hm
          have HX := Lib.hid (goodT_step HQ.out HA.out hr hm)
          clear hq k2 k3 k4 hr hbw hm k0b hws
          go_wp2_with (first
            | (go_at_call 37; refine CI.out.mono ?_; rintro e w1 ⟨rfl, hb1⟩; have k9 := K0.out _ hb1)
            | (go_at_call 25; refine (CF.out _ hb1).mono ?_; rintro e w2 ⟨rfl, m, rfl⟩))
          go_roundw
          case rel => exact ⟨k + 1, by omega, by go_num, HX, below_drewR (HB.out.trans (hb1.mono HB.out.size)) _⟩
          case measure => simp [intOf]; omega
    · have HX : Hid (tableB rs = decide ((n : Int) ≤ 30)) := Lib.hid (by
        have h1 := table_sum (rs := rs) ((goodT_end (k := k) (by have := HL.out; omega)).symm.trans HA.out)
        rw [h1, ← HL.out])
      go_wp2
      go_ret
      exact ⟨ret_bool (by rw [HX.out]), hbw⟩
end Go.Proofs.Ytnodnjaajaemcab
