/-
  The contracts of AreYears of both packages.
-/
import Derived.Test.YthlajgkelggnkaaSpanRow
import Derived.Test.YthlajgkelggnkaaClass
import Derived.IntWalk
import Derived.Deep.RegionWith
namespace Go.Proofs.Ythlajgkelggnkaa
set_option linter.unusedVariables false
open Go.RowKit

theorem keep_three {W W' : World} {B b q : Nat} {x y v : Value} (h : W.cell? ⟨B, 0, none⟩ = some x ∧ W.cell? ⟨B, 1, none⟩ = some y ∧ W.cell? ⟨b, q, none⟩ = some v ∧ B < W.heap.size ∧ b < W.heap.size) (hb : Below W.heap.size W W') :
    W'.cell? ⟨B, 0, none⟩ = some x ∧ W'.cell? ⟨B, 1, none⟩ = some y ∧ W'.cell? ⟨b, q, none⟩ = some v ∧ B < W'.heap.size ∧ b < W'.heap.size := by
  obtain ⟨h0, h1, h2, l1, l2⟩ := h
  exact ⟨(hb.cell (p := ⟨B, 0, none⟩) l1).trans h0, (hb.cell (p := ⟨B, 1, none⟩) l1).trans h1, (hb.cell (p := ⟨b, q, none⟩) l2).trans h2, Nat.lt_of_lt_of_le l1 hb.size, Nat.lt_of_lt_of_le l2 hb.size⟩

set_option maxHeartbeats 2000000 in
set_option maxRecDepth 100000 in
theorem cAre_impl (A : Option Addr) (n cap : Nat) (xs : List Sp) (w : World) (hbig : n ≤ 1048576) (h : SpanAt w w.heap.size A n xs) :
    Calls Try.prog 17 #[.slice A n cap] w fun e w' => e = .returned (.bool (yearsB xs)) ∧ Below w.heap.size w w' := by
  have H := Lib.hid h
  clear h
  by_cases h12 : 12 < n
  · have HX := Lib.hid (yearsB_long (xs := xs) (by have := H.out.1; omega))
    go_enter Try.func17, Try.ntmps17
    go_wp2
    go_ret
    exact ⟨ret_bool HX.out.symm, Below.refl _ _⟩
  go_enter Try.func17, Try.ntmps17
  go_wp2
  go_loopw [10] (fun i wr => ∃ k : Nat, k ≤ n ∧ i = .int .i64 k ∧ Hid (chainB xs k = true) ∧ Below w.heap.size w wr) (fun i _ => n - (intOf i).toNat)
  case atStart => exact ⟨0, Nat.zero_le _, rfl, Lib.hid rfl, Below.refl _ _⟩
  case round =>
    obtain ⟨k, hk, rfl, HA, hbw⟩ := hrel
    by_cases hlt : k < n
    · obtain ⟨p, hp⟩ : ∃ p, xs[k]? = some p := ⟨xs[k]'(by have := H.out.1; omega), List.getElem?_eq_getElem _⟩
      obtain ⟨b, o, rfl, hbl, c0, c1⟩ := (H.out.below hbw).2 k p hp
      have hbl2 := Nat.lt_of_lt_of_le hbl hbw.size
      obtain ⟨x, y⟩ := p
      have HP := Lib.hid hp
      have CV := Lib.hid (fun W => cValid x y W)
      have HB := Lib.hid (hbw.alloc hbw.size (.cells #[.int .i64 x, .int .i64 y] 30))
      have n0 := (box_cell wr x y 30).1
      have n1 := (box_cell wr x y 30).2
      have m0 := (World.cell?_alloc_lt wr (.cells #[.int .i64 x, .int .i64 y] 30) ⟨b, o + k * 2, none⟩ hbl2).trans c0
      have q0 : wr.heap.size < (wr.alloc (.cells #[.int .i64 x, .int .i64 y] 30)).heap.size := by simp
      have q1 : b < (wr.alloc (.cells #[.int .i64 x, .int .i64 y] 30)).heap.size := Nat.lt_trans hbl2 q0
      clear hp
      cases hv : spB x y
      · have HN : Hid (yearsB xs = false) := Lib.hid (yearsB_stop (k := k) (by have := H.out.1; omega) (by
          cases k with
          | zero => rw [stepB_zero HP.out]; exact hv
          | succ k =>
            obtain ⟨q, hq⟩ : ∃ q, xs[k]? = some q := ⟨xs[k]'(by have := H.out.1; omega), List.getElem?_eq_getElem _⟩
            rw [stepB_succ HP.out hq, hv]; rfl))
        rw [hv] at CV
        clear hv hbw
        go_wp2_with fail
        obtain ⟨T, f, t0, hT, ht0, hf, hback⟩ := class_of (wr.alloc (.cells #[.int .i64 x, .int .i64 y] 30))
        have k0 : ∀ t, (f t).cell? ⟨wr.heap.size, 0, none⟩ = some (.int .i64 x) := fun t => ((hf t).cell (p := ⟨wr.heap.size, 0, none⟩) q0).trans n0
        have k1 : ∀ t, (f t).cell? ⟨wr.heap.size, 1, none⟩ = some (.int .i64 y) := fun t => ((hf t).cell (p := ⟨wr.heap.size, 1, none⟩) q0).trans n1
        have HF := Lib.hid hf
        have HK := Lib.hid hback
        clear hf hback
        refine wp_region_class f t0 ht0 (by kernel_rfl) (by kernel_rfl) ?_
        clear ht0
        repeat (go_big_quiet_step (first | (go_at_call 37; exact Calls.class_of HF.out HK.out (CV.out _))))
        refine wpQuiet_nil ?_
        rintro w' ⟨t, rfl⟩
        have hbt := HB.out.trans ((HF.out t).mono HB.out.size)
        go_wp2
        go_ret
        exact ⟨ret_bool HN.out.symm, hbt⟩
      · rw [hv] at CV
        by_cases hk0 : k = 0
        · have HC : Hid (chainB xs (k + 1) = true) := Lib.hid (chainB_step HA.out (by
            have h := HP.out
            rw [hk0] at h ⊢
            rw [stepB_zero h]; exact hv))
          have z1 : decide (0 < k) = false := decide_eq_false (by omega)
          have z2 : decide ((0 : Int) < (k : Int)) = false := decide_eq_false (by omega)
          clear hv hbw hk0
          go_wp2_with fail
          obtain ⟨T, f, t0, hT, ht0, hf, hback⟩ := class_of (wr.alloc (.cells #[.int .i64 x, .int .i64 y] 30))
          have k0 : ∀ t, (f t).cell? ⟨wr.heap.size, 0, none⟩ = some (.int .i64 x) := fun t => ((hf t).cell (p := ⟨wr.heap.size, 0, none⟩) q0).trans n0
          have k1 : ∀ t, (f t).cell? ⟨wr.heap.size, 1, none⟩ = some (.int .i64 y) := fun t => ((hf t).cell (p := ⟨wr.heap.size, 1, none⟩) q0).trans n1
          have HF := Lib.hid hf
          have HK := Lib.hid hback
          clear hf hback
          refine wp_region_class f t0 ht0 (by kernel_rfl) (by kernel_rfl) ?_
          clear ht0
          repeat (go_big_quiet_step (first | (go_at_call 37; exact Calls.class_of HF.out HK.out (CV.out _))))
          refine wpQuiet_nil ?_
          rintro w' ⟨t, rfl⟩
          have hbt := HB.out.trans ((HF.out t).mono HB.out.size)
          go_wp2
          go_roundw
          case rel => exact ⟨k + 1, by omega, by go_num, HC, hbt⟩
          case measure => simp [intOf]; omega
        · obtain ⟨m, hm⟩ : ∃ m, k = m + 1 := ⟨k - 1, by omega⟩
          obtain ⟨q, hq⟩ : ∃ q, xs[m]? = some q := ⟨xs[m]'(by have := H.out.1; omega), List.getElem?_eq_getElem _⟩
          obtain ⟨b', o', hA, hbl', d0, d1⟩ := (H.out.below hbw).2 m q hq
          obtain ⟨rfl, rfl⟩ : b = b' ∧ o = o' := by injection hA with hA; injection hA with h1 h2; exact ⟨h1, h2⟩
          have hbq := spB_bd (chainB_sp HA.out (show m < k by omega) hq)
          obtain ⟨qx, qy⟩ := q
          have HS : Hid (stepB xs k = (spB x y && decide (qy + 2 ≤ x))) := Lib.hid (by
            have h := HP.out
            rw [hm] at h ⊢
            exact stepB_succ h hq)
          have z1 : decide (0 < k) = true := decide_eq_true (by omega)
          have z2 : decide ((0 : Int) < (k : Int)) = true := decide_eq_true (by omega)
          have hkm : (k : Int) - 1 = (m : Int) := by omega
          have e1 : (0 : Int) ≤ (m : Int) := Int.natCast_nonneg _
          have e2 : (m : Int) < (n : Int) := by omega
          have e3 : -3000 ≤ qy := by have := hbq.1; have := hbq.2.1; show (-3000 : Int) ≤ qy; omega
          have e4 : qy ≤ 3000 := hbq.2.2
          have m2 := (World.cell?_alloc_lt wr (.cells #[.int .i64 x, .int .i64 y] 30) ⟨b, o + m * 2 + 1, none⟩ hbl2).trans d1
          have s1 : IntKind.i64.wrap ((k : Int) - 1) = (k : Int) - 1 := IntWalk.i64_in _ (by omega)
          have s2 : IntKind.i64.wrap (qy + 2) = qy + 2 := IntWalk.i64_in _ (by omega)
          clear hq hA hbq d0 d1
          by_cases hg : x < qy + 2
          · have HN : Hid (yearsB xs = false) := Lib.hid (yearsB_stop (k := k) (by have := H.out.1; omega) (by rw [HS.out, decide_eq_false (by omega), Bool.and_false]))
            have z3 : decide (x < qy + 2) = true := decide_eq_true hg
            clear hv hbw hm hk0 hg
            go_wp2_with fail
            obtain ⟨T, f, t0, hT, ht0, hf, hback⟩ := class_of (wr.alloc (.cells #[.int .i64 x, .int .i64 y] 30))
            have k0 : ∀ t, (f t).cell? ⟨wr.heap.size, 0, none⟩ = some (.int .i64 x) := fun t => ((hf t).cell (p := ⟨wr.heap.size, 0, none⟩) q0).trans n0
            have k1 : ∀ t, (f t).cell? ⟨wr.heap.size, 1, none⟩ = some (.int .i64 y) := fun t => ((hf t).cell (p := ⟨wr.heap.size, 1, none⟩) q0).trans n1
            have k2 : ∀ t, (f t).cell? ⟨b, o + m * 2 + 1, none⟩ = some (.int .i64 qy) := fun t => ((hf t).cell (p := ⟨b, o + m * 2 + 1, none⟩) q1).trans m2
            have HF := Lib.hid hf
            have HK := Lib.hid hback
            clear hf hback
            refine wp_region_class f t0 ht0 (by kernel_rfl) (by kernel_rfl) ?_
            clear ht0
            repeat (go_big_quiet_step (first | (go_at_call 37; exact Calls.class_of HF.out HK.out (CV.out _))))
            refine wpQuiet_nil ?_
            rintro w' ⟨t, rfl⟩
            have hbt := HB.out.trans ((HF.out t).mono HB.out.size)
            go_wp2
            go_ret
            exact ⟨ret_bool HN.out.symm, hbt⟩
          · have HC : Hid (chainB xs (k + 1) = true) := Lib.hid (chainB_step HA.out (by rw [HS.out, hv, decide_eq_true (by omega)]; rfl))
            have z3 : decide (x < qy + 2) = false := decide_eq_false hg
            clear hv hbw hm hk0 hg
            go_wp2_with fail
            obtain ⟨T, f, t0, hT, ht0, hf, hback⟩ := class_of (wr.alloc (.cells #[.int .i64 x, .int .i64 y] 30))
            have k0 : ∀ t, (f t).cell? ⟨wr.heap.size, 0, none⟩ = some (.int .i64 x) := fun t => ((hf t).cell (p := ⟨wr.heap.size, 0, none⟩) q0).trans n0
            have k1 : ∀ t, (f t).cell? ⟨wr.heap.size, 1, none⟩ = some (.int .i64 y) := fun t => ((hf t).cell (p := ⟨wr.heap.size, 1, none⟩) q0).trans n1
            have k2 : ∀ t, (f t).cell? ⟨b, o + m * 2 + 1, none⟩ = some (.int .i64 qy) := fun t => ((hf t).cell (p := ⟨b, o + m * 2 + 1, none⟩) q1).trans m2
            have HF := Lib.hid hf
            have HK := Lib.hid hback
            clear hf hback
            refine wp_region_class f t0 ht0 (by kernel_rfl) (by kernel_rfl) ?_
            clear ht0
            repeat (go_big_quiet_step (first | (go_at_call 37; exact Calls.class_of HF.out HK.out (CV.out _))))
            refine wpQuiet_nil ?_
            rintro w' ⟨t, rfl⟩
            have hbt := HB.out.trans ((HF.out t).mono HB.out.size)
            go_wp2
            go_roundw
            case rel => exact ⟨k + 1, by omega, by go_num, HC, hbt⟩
            case measure => simp [intOf]; omega
    · obtain rfl : k = n := by omega
      have HY := Lib.hid (yearsB_end (xs := xs) (by rw [H.out.1]; exact HA.out))
      have hle : xs.length ≤ 12 := by have := H.out.1; omega
      go_wp2
      go_ret
      exact ⟨ret_bool (by rw [HY.out, decide_eq_true hle]), hbw⟩

set_option maxHeartbeats 2000000 in
set_option maxRecDepth 100000 in
theorem cAre_spec (A : Option Addr) (n cap : Nat) (xs : List Sp) (w : World) (hbig : n ≤ 1048576) (h : SpanAt w w.heap.size A n xs) :
    Calls Try.prog 18 #[.slice A n cap] w fun e w' => e = .returned (.bool (yearsB xs)) ∧ Below w.heap.size w w' := by
  have H := Lib.hid h
  clear h
  go_enter Try.func18, Try.ntmps18
  go_wp2
  go_loopw [3] (fun i wr => ∃ k : Nat, k ≤ n ∧ i = .int .i64 k ∧ Hid (chainB xs k = true) ∧ Below w.heap.size w wr) (fun i _ => n - (intOf i).toNat)
  case atStart => exact ⟨0, Nat.zero_le _, rfl, Lib.hid rfl, Below.refl _ _⟩
  case round =>
    obtain ⟨k, hk, rfl, HA, hbw⟩ := hrel
    by_cases hlt : k < n
    · obtain ⟨p, hp⟩ : ∃ p, xs[k]? = some p := ⟨xs[k]'(by have := H.out.1; omega), List.getElem?_eq_getElem _⟩
      obtain ⟨b, o, rfl, hbl, c0, c1⟩ := (H.out.below hbw).2 k p hp
      have hbl2 := Nat.lt_of_lt_of_le hbl hbw.size
      obtain ⟨x, y⟩ := p
      have HP := Lib.hid hp
      have CV := Lib.hid (fun W => cIsSpan_spec x y W)
      have HB := Lib.hid hbw
      have u1 : (0 : Int) ≤ (k : Int) := Int.natCast_nonneg _
      have u2 : (k : Int) < (n : Int) := by omega
      clear hp
      cases hv : spB x y
      · have HN : Hid (yearsB xs = false) := Lib.hid (yearsB_stop (k := k) (by have := H.out.1; omega) (by
          cases k with
          | zero => rw [stepB_zero HP.out]; exact hv
          | succ k =>
            obtain ⟨q, hq⟩ : ∃ q, xs[k]? = some q := ⟨xs[k]'(by have := H.out.1; omega), List.getElem?_eq_getElem _⟩
            rw [stepB_succ HP.out hq, hv]; rfl))
        rw [hv] at CV
        clear hv hbw
        go_wp2_with fail
        obtain ⟨T, f, t0, hT, ht0, hf, hback⟩ := class_of wr
        have k0 : ∀ t, (f t).cell? ⟨b, o + k * 2, none⟩ = some (.int .i64 x) := fun t => ((hf t).cell (p := ⟨b, o + k * 2, none⟩) hbl2).trans c0
        have k1 : ∀ t, (f t).cell? ⟨b, o + k * 2 + 1, none⟩ = some (.int .i64 y) := fun t => ((hf t).cell (p := ⟨b, o + k * 2 + 1, none⟩) hbl2).trans c1
        have HF := Lib.hid hf
        have HK := Lib.hid hback
        clear hf hback
        refine wp_region_class f t0 ht0 (by kernel_rfl) (by kernel_rfl) ?_
        clear ht0
        repeat (go_big_quiet_step (first | (go_at_call 41; exact Calls.class_of HF.out HK.out (CV.out _))))
        refine wpQuiet_nil ?_
        rintro w' ⟨t, rfl⟩
        have hbt := HB.out.trans ((HF.out t).mono HB.out.size)
        go_wp2
        go_ret
        exact ⟨ret_bool HN.out.symm, hbt⟩
      · rw [hv] at CV
        by_cases hk0 : k = 0
        · have HC : Hid (chainB xs (k + 1) = true) := Lib.hid (chainB_step HA.out (by
            have h := HP.out
            rw [hk0] at h ⊢
            rw [stepB_zero h]; exact hv))
          have z1 : decide (0 < k) = false := decide_eq_false (by omega)
          have z2 : decide ((0 : Int) < (k : Int)) = false := decide_eq_false (by omega)
          clear hv hbw hk0
          go_wp2_with fail
          obtain ⟨T, f, t0, hT, ht0, hf, hback⟩ := class_of wr
          have k0 : ∀ t, (f t).cell? ⟨b, o + k * 2, none⟩ = some (.int .i64 x) := fun t => ((hf t).cell (p := ⟨b, o + k * 2, none⟩) hbl2).trans c0
          have k1 : ∀ t, (f t).cell? ⟨b, o + k * 2 + 1, none⟩ = some (.int .i64 y) := fun t => ((hf t).cell (p := ⟨b, o + k * 2 + 1, none⟩) hbl2).trans c1
          have HF := Lib.hid hf
          have HK := Lib.hid hback
          clear hf hback
          refine wp_region_class f t0 ht0 (by kernel_rfl) (by kernel_rfl) ?_
          clear ht0
          repeat (go_big_quiet_step (first | (go_at_call 41; exact Calls.class_of HF.out HK.out (CV.out _))))
          refine wpQuiet_nil ?_
          rintro w' ⟨t, rfl⟩
          have hbt := HB.out.trans ((HF.out t).mono HB.out.size)
          go_wp2
          go_roundw
          case rel => exact ⟨k + 1, by omega, by go_num, HC, hbt⟩
          case measure => simp [intOf]; omega
        · obtain ⟨m, hm⟩ : ∃ m, k = m + 1 := ⟨k - 1, by omega⟩
          obtain ⟨q, hq⟩ : ∃ q, xs[m]? = some q := ⟨xs[m]'(by have := H.out.1; omega), List.getElem?_eq_getElem _⟩
          obtain ⟨b', o', hA, hbl', d0, d1⟩ := (H.out.below hbw).2 m q hq
          obtain ⟨rfl, rfl⟩ : b = b' ∧ o = o' := by injection hA with hA; injection hA with h1 h2; exact ⟨h1, h2⟩
          have hbq := spB_bd (chainB_sp HA.out (show m < k by omega) hq)
          obtain ⟨qx, qy⟩ := q
          have HS : Hid (stepB xs k = (spB x y && decide (qy + 2 ≤ x))) := Lib.hid (by
            have h := HP.out
            rw [hm] at h ⊢
            exact stepB_succ h hq)
          have z1 : decide (0 < k) = true := decide_eq_true (by omega)
          have z2 : decide ((0 : Int) < (k : Int)) = true := decide_eq_true (by omega)
          have hkm : (k : Int) - 1 = (m : Int) := by omega
          have e1 : (0 : Int) ≤ (m : Int) := Int.natCast_nonneg _
          have e2 : (m : Int) < (n : Int) := by omega
          have e3 : -3000 ≤ qy := by have := hbq.1; have := hbq.2.1; show (-3000 : Int) ≤ qy; omega
          have e4 : qy ≤ 3000 := hbq.2.2
          have m2 := d1
          have s1 : IntKind.i64.wrap ((k : Int) - 1) = (k : Int) - 1 := IntWalk.i64_in _ (by omega)
          have s2 : IntKind.i64.wrap (qy + 2) = qy + 2 := IntWalk.i64_in _ (by omega)
          clear hq hA hbq d0 d1
          by_cases hg : x < qy + 2
          · have HN : Hid (yearsB xs = false) := Lib.hid (yearsB_stop (k := k) (by have := H.out.1; omega) (by rw [HS.out, decide_eq_false (by omega), Bool.and_false]))
            have z3 : decide (x < qy + 2) = true := decide_eq_true hg
            clear hv hbw hm hk0 hg
            go_wp2_with fail
            obtain ⟨T, f, t0, hT, ht0, hf, hback⟩ := class_of wr
            have k0 : ∀ t, (f t).cell? ⟨b, o + k * 2, none⟩ = some (.int .i64 x) := fun t => ((hf t).cell (p := ⟨b, o + k * 2, none⟩) hbl2).trans c0
            have k1 : ∀ t, (f t).cell? ⟨b, o + k * 2 + 1, none⟩ = some (.int .i64 y) := fun t => ((hf t).cell (p := ⟨b, o + k * 2 + 1, none⟩) hbl2).trans c1
            have k2 : ∀ t, (f t).cell? ⟨b, o + m * 2 + 1, none⟩ = some (.int .i64 qy) := fun t => ((hf t).cell (p := ⟨b, o + m * 2 + 1, none⟩) hbl2).trans m2
            have HF := Lib.hid hf
            have HK := Lib.hid hback
            clear hf hback
            refine wp_region_class f t0 ht0 (by kernel_rfl) (by kernel_rfl) ?_
            clear ht0
            repeat (go_big_quiet_step (first | (go_at_call 41; exact Calls.class_of HF.out HK.out (CV.out _))))
            refine wpQuiet_nil ?_
            rintro w' ⟨t, rfl⟩
            have hbt := HB.out.trans ((HF.out t).mono HB.out.size)
            go_wp2
            go_ret
            exact ⟨ret_bool HN.out.symm, hbt⟩
          · have HC : Hid (chainB xs (k + 1) = true) := Lib.hid (chainB_step HA.out (by rw [HS.out, hv, decide_eq_true (by omega)]; rfl))
            have z3 : decide (x < qy + 2) = false := decide_eq_false hg
            clear hv hbw hm hk0 hg
            go_wp2_with fail
            obtain ⟨T, f, t0, hT, ht0, hf, hback⟩ := class_of wr
            have k0 : ∀ t, (f t).cell? ⟨b, o + k * 2, none⟩ = some (.int .i64 x) := fun t => ((hf t).cell (p := ⟨b, o + k * 2, none⟩) hbl2).trans c0
            have k1 : ∀ t, (f t).cell? ⟨b, o + k * 2 + 1, none⟩ = some (.int .i64 y) := fun t => ((hf t).cell (p := ⟨b, o + k * 2 + 1, none⟩) hbl2).trans c1
            have k2 : ∀ t, (f t).cell? ⟨b, o + m * 2 + 1, none⟩ = some (.int .i64 qy) := fun t => ((hf t).cell (p := ⟨b, o + m * 2 + 1, none⟩) hbl2).trans m2
            have HF := Lib.hid hf
            have HK := Lib.hid hback
            clear hf hback
            refine wp_region_class f t0 ht0 (by kernel_rfl) (by kernel_rfl) ?_
            clear ht0
            repeat (go_big_quiet_step (first | (go_at_call 41; exact Calls.class_of HF.out HK.out (CV.out _))))
            refine wpQuiet_nil ?_
            rintro w' ⟨t, rfl⟩
            have hbt := HB.out.trans ((HF.out t).mono HB.out.size)
            go_wp2
            go_roundw
            case rel => exact ⟨k + 1, by omega, by go_num, HC, hbt⟩
            case measure => simp [intOf]; omega
    · obtain rfl : k = n := by omega
      have HY := Lib.hid (yearsB_end (xs := xs) (by rw [H.out.1]; exact HA.out))
      have HL := Lib.hid H.out.1
      go_wp2
      go_ret
      exact ⟨ret_bool (by rw [HY.out, HL.out]; rw [decide_eq_decide]; omega), hbw⟩
end Go.Proofs.Ythlajgkelggnkaa
