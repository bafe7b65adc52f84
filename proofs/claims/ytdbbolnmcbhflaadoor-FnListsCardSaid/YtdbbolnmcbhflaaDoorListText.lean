/-
  The contracts of spec.ListText and impl.ListText.
-/
import Derived.Test.YtdbbolnmcbhflaaDoorJoinN
namespace Go.Proofs.YtdbbolnmcbhflaaDoor
set_option linter.unusedVariables false
open Go.RowKit

theorem cLT_spec_none (A : Option Addr) (cap : Nat) (w : World) :
    Calls Tryd.prog 24 #[.slice A 0 cap] w fun e w' => e = .returned (.tuple #[.string ⟨#[45]⟩, .int .i64 0]) ∧ w = w' := by
  have hc : ∀ W, Calls Tryd.prog 53 #[.slice A 0 cap] W fun e w' => e = .returned (.string ⟨#[45]⟩) ∧ W = w' := by
    intro W
    go_enter Tryd.func53, Tryd.ntmps53
    go_wp2_with fail
    go_ret
    exact ⟨rfl, rfl⟩
  have HC := Lib.hid hc
  clear hc
  go_enter Tryd.func24, Tryd.ntmps24
  go_wp2_with fail
  refine wp_loop_rounds 1 ?_
  rw [rounds_succ]
  go_wp2_with fail
  refine (HC.out _).mono ?_
  rintro e w' ⟨rfl, rfl⟩
  go_wp2_with fail
  go_ret2
  exact ⟨rfl, rfl⟩
theorem cLT_impl_none (A : Option Addr) (cap : Nat) (w : World) :
    Calls Tryd.prog 23 #[.slice A 0 cap] w fun e w' => e = .returned (.tuple #[.string ⟨#[45]⟩, .int .i64 0]) ∧ w = w' := by
  have hc : ∀ W, Calls Tryd.prog 50 #[.slice A 0 cap] W fun e w' => e = .returned (.bool true) ∧ W = w' := by
    intro W
    exact cAreVals7 A 0 cap 0 [] W (by omega) ⟨rfl, fun h => absurd h (by omega)⟩
  have HC := Lib.hid hc
  clear hc
  go_enter Tryd.func23, Tryd.ntmps23
  go_wp2_with fail
  refine (HC.out _).mono ?_
  rintro e w' ⟨rfl, rfl⟩
  go_wp2_with fail
  go_ret2
  exact ⟨rfl, rfl⟩

set_option maxHeartbeats 1000000 in
theorem cLT_spec (g cap n : Nat) (xs : List Int) (w : World) (hn : n = xs.length) (hpos : 0 < n) (hbig : n ≤ 1048576) (hg : g < w.heap.size)
    (hc : ∀ (j : Nat) x, xs[j]? = some x → w.cell? ⟨g, 0 + j, none⟩ = some (.int .i64 x)) :
    Calls Tryd.prog 24 #[.slice (some ⟨g, 0, none⟩) n cap] w fun e w' => e = .returned (listV xs) ∧ Below w.heap.size w w' := by
  have HN := Lib.hid hn
  have HC := Lib.hid hc
  clear hn hc
  go_enter Tryd.func24, Tryd.ntmps24
  go_wp2_with fail
  go_loop [4] (fun i => ∃ k : Nat, k ≤ n ∧ i = .int .i64 k ∧ Hid (okAll (xs.take k) = true)) (fun i => n - (intOf i).toNat)
  case atStart => exact ⟨0, Nat.zero_le _, rfl, Lib.hid rfl⟩
  case round =>
    obtain ⟨k, hk, rfl, HA⟩ := hrel
    by_cases hlt : k < n
    · obtain ⟨x, hx⟩ : ∃ x, xs[k]? = some x := ⟨xs[k]'(by have := HN.out; omega), List.getElem?_eq_getElem _⟩
      have hcx := HC.out k x hx
      rw [Nat.zero_add] at hcx
      have HX := Lib.hid hx
      clear hx
      cases hb : okN x
      · have HB := Lib.hid hb
        have HJ := Lib.hid (listV_bad xs (okAll_stop xs k x HX.out hb))
        go_wp2_with (go_at_call 52; refine (cIs x _).mono ?_; rintro e w' ⟨rfl, rfl⟩)
        go_ret2
        exact ⟨by rw [HJ.out]; rfl, Below.refl _ _⟩
      · have HB := Lib.hid hb
        go_wp2_with (go_at_call 52; refine (cIs x _).mono ?_; rintro e w' ⟨rfl, rfl⟩)
        go_round
        case rel => exact ⟨k + 1, by omega, by go_num, Lib.hid (okAll_step xs k x HX.out HA.out HB.out)⟩
        case measure => simp [intOf]; omega
    · obtain rfl : k = n := by omega
      have hw : okAll xs = true := (okAll_end xs k (by have := HN.out; omega)).symm.trans HA.out
      by_cases h60 : k ≤ 60
      · have HJ := Lib.hid (listV_ok xs hw (by have := HN.out; omega))
        have HM := Lib.hid (cComma g cap k xs w HN.out h60 hg hw HC.out)
        have hl : ∀ W, W = w → Calls Tryd.prog 53 #[.slice (some ⟨g, 0, none⟩) k cap] W fun e w' => e = .returned (.string (listB xs)) ∧ Below W.heap.size W w' := by
          rintro W rfl
          have hd : ((k : Int) == 0) = false := by rw [beq_eq_false_iff_ne]; omega
          clear hw
          go_enter Tryd.func53, Tryd.ntmps53
          go_wp2_with fail
          refine HM.out.mono ?_
          rintro e w' ⟨rfl, hb⟩
          go_wp2_with fail
          go_ret
          exact ⟨rfl, hb⟩
        have HL := Lib.hid (hl w rfl)
        clear hw hl
        go_wp2_with fail
        refine HL.out.mono ?_
        rintro e w' ⟨rfl, hb⟩
        go_wp2_with fail
        go_ret2
        exact ⟨by rw [HJ.out]; rfl, hb⟩
      · have HJ := Lib.hid (listV_long xs hw (by have := HN.out; omega))
        clear hw
        go_wp2_with fail
        go_ret2
        exact ⟨by rw [HJ.out]; rfl, Below.refl _ _⟩

set_option maxHeartbeats 1000000 in
set_option maxRecDepth 100000 in
theorem cLT_impl (g cap n : Nat) (xs : List Int) (w : World) (hn : n = xs.length) (hpos : 0 < n) (hbig : n ≤ 1048576) (hg : g < w.heap.size) (hgl : 1 < w.heap.size)
    (hc : ∀ (j : Nat) x, xs[j]? = some x → w.cell? ⟨g, 0 + j, none⟩ = some (.int .i64 x)) (htab : Lib.TabIs Tryd.prog w "internal/strconv.uint64pow10" .u64 Lib.pow10Tab) :
    Calls Tryd.prog 23 #[.slice (some ⟨g, 0, none⟩) n cap] w fun e w' => e = .returned (listV xs) ∧ Below w.heap.size w w' := by
  have HA := Lib.hid (cAreValues g 0 cap n xs w hn (by omega) hc)
  have HN := Lib.hid hn
  have HC := Lib.hid hc
  have HT := Lib.hid htab
  clear hn hc htab
  cases hok : okAll xs
  · rw [hok] at HA
    have HJ := Lib.hid (listV_bad xs hok)
    clear hok
    go_enter Tryd.func23, Tryd.ntmps23
    go_wp2_with fail
    refine HA.out.mono ?_
    rintro e w' ⟨rfl, rfl⟩
    go_wp2_with fail
    go_ret2
    exact ⟨by rw [HJ.out]; rfl, Below.refl _ _⟩
  · rw [hok] at HA
    by_cases h60 : n ≤ 60
    · have HJ := Lib.hid (listV_ok xs hok (by have := HN.out; omega))
      have HO := Lib.hid hok
      have hd : ((n : Int) == 0) = false := by rw [beq_eq_false_iff_ne]; omega
      have hd2 : decide (n = 0) = false := decide_eq_false (by omega)
      clear hok
      go_enter Tryd.func23, Tryd.ntmps23
      go_wp2_with fail
      refine HA.out.mono ?_
      rintro e w' ⟨rfl, rfl⟩
      have CJ := Lib.hid (cJoinN 44 g cap n xs w HN.out hpos h60 HO.out hg hgl HC.out HT.out)
      go_wp2_with fail
      refine (show Calls Tryd.prog 51 #[.slice (some ⟨g, 0, none⟩) n cap, .string (sepB 44)] _ _ from CJ.out).mono ?_
      rintro e w1 ⟨rfl, hb1⟩
      go_wp2_with fail
      go_ret2
      exact ⟨by rw [HJ.out]; rfl, hb1⟩
    · have HJ := Lib.hid (listV_long xs hok (by have := HN.out; omega))
      clear hok
      go_enter Tryd.func23, Tryd.ntmps23
      go_wp2_with fail
      refine HA.out.mono ?_
      rintro e w' ⟨rfl, rfl⟩
      go_wp2_with fail
      go_ret2
      exact ⟨by rw [HJ.out]; rfl, Below.refl _ _⟩
end Go.Proofs.YtdbbolnmcbhflaaDoor
