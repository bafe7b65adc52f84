/-
  The contract of spec.IsEndingTable: it returns 'tabE xs'.
-/
import Derived.Test.YtippjomkbpiliaaEnT
namespace Go.Proofs.Ytippjomkbpiliaa
set_option linter.unusedVariables false
set_option linter.unusedSimpArgs false
open Go.RowKit Go.Shelf Go.Lib

theorem guard_en : (Try.prog).eqGuardType (Try.prog).depth 60 = false := by kernel_rfl
theorem run_eqEn (a b a' b' : ByteArray) (c c' : Int) (W : World) : (binOp .eql 60 (.agg #[.string a, .string b, .int .i64 c]) (.agg #[.string a', .string b', .int .i64 c'])).run Try.prog W = .ok (.bool (decide (((a, b, c) : En) = (a', b', c')))) W := by
  have h := eqE.1 (a, b, c) (a', b', c') W
  refine h.trans ?_
  rw [← eqE_dec (a, b, c) (a', b', c')]

set_option maxHeartbeats 400000 in
theorem cLow06 (s : ByteArray) (w : World) (hs : s.size ≤ maxLen) :
    Calls Try.prog 54 #[.string s, .int .i64 0, .int .i64 6] w fun e w' => e = .returned (.bool (etB s)) ∧ w = w' := by
  unfold maxLen at hs
  go_enter Try.func54, Try.ntmps54
  go_wp2
  go_loop [7] (fun i => ∃ k : Nat, k ≤ s.size ∧ i = .int .i64 k ∧ Hid (lowAll (s.data.toList.take k) = true)) (fun i => s.size - (intOf i).toNat)
  case atStart => exact ⟨0, Nat.zero_le _, rfl, Lib.hid (lowAll_zero s)⟩
  case round =>
    obtain ⟨k, hk, rfl, HA⟩ := hrel
    by_cases hlt : k < s.size
    · go_wp2
      all_goals first
        | (have hno : (s[k].toNat : Int) < 97 ∨ (122 : Int) < (s[k].toNat : Int) := by first | assumption | omega
           go_ret
           exact ⟨ret_bool (et_stop s k hlt (lowB_no _ hno)).symm, rfl⟩)
        | (go_round
           case rel => exact ⟨k + 1, by omega, by go_num, Lib.hid (lowAll_step s k hlt HA.out (lowB_yes _ (by omega) (by omega)))⟩
           case measure => simp [intOf]; omega)
    · go_wp2_with (go_at_call 55; refine (cIn_any _ _ _ _).mono ?_; rintro e w' ⟨rfl, rfl⟩)
      go_ret
      exact ⟨ret_bool (et_sum s ((lowAll_end s k (by omega)).symm.trans HA.out)).symm, rfl⟩

theorem not_take_step {xs : List En} {x y : En} {m : Nat} (h : xs[m]? = some y) (hn : x ∉ xs.take m) (hne : y ≠ x) : x ∉ xs.take (m + 1) := by
  rw [take_snocE h, List.mem_append, List.mem_singleton]
  rintro (h | h)
  · exact hn h
  · exact hne h.symm
theorem in_take {xs : List En} {x : En} {m k : Nat} (h : xs[m]? = some x) (hm : m < k) : x ∈ xs.take k := by
  apply List.mem_of_getElem? (i := m)
  rw [List.getElem?_take, if_pos hm]; exact h
/-- Which of the tests of one ending fails first. -/
theorem end_cases (o n : ByteArray) (c : Int) :
    (endB (o, n, c) = true ∧ etB o = true ∧ etB n = true ∧ o ≠ n ∧ 1 ≤ c ∧ c ≤ 9) ∨
    (endB (o, n, c) = false ∧ (etB o = false ∨ (etB o = true ∧ (etB n = false ∨ (etB n = true ∧ (o = n ∨ (o ≠ n ∧ (decide (1 ≤ c) && decide (c ≤ 9)) = false))))))) := by
  unfold endB
  cases h1 : etB o
  · exact .inr ⟨by simp [h1], .inl rfl⟩
  cases h2 : etB n
  · exact .inr ⟨by simp [h1, h2], .inr ⟨rfl, .inl rfl⟩⟩
  by_cases h3 : o = n
  · exact .inr ⟨by simp [h3], .inr ⟨rfl, .inr ⟨rfl, .inl h3⟩⟩⟩
  cases h4 : (decide (1 ≤ c) && decide (c ≤ 9))
  · exact .inr ⟨by simp only [h1, h2, h3, h4]; simp, .inr ⟨rfl, .inr ⟨rfl, .inr ⟨h3, rfl⟩⟩⟩⟩
  · have h5 := h4
    simp at h5
    exact .inl ⟨by simp only [h1, h2, h3, h4]; simp, rfl, rfl, h3, h5.1, h5.2⟩

set_option maxHeartbeats 2000000 in
set_option maxRecDepth 100000 in
theorem cTabE_spec (b o c n : Nat) (xs : List En) (w : World) (hn : n = xs.length) (hbig : n ≤ 1048576) (hs : ∀ e ∈ xs, e.1.size ≤ maxLen ∧ e.2.1.size ≤ maxLen) (hbl : b < w.heap.size)
    (hc : ∀ (j : Nat) e, xs[j]? = some e → EnCell w b (o + j * 3) e) :
    Calls Try.prog 21 #[.slice (some ⟨b, o, none⟩) n c] w fun e w' => e = .returned (.bool (tabE xs)) ∧ Below w.heap.size w w' := by
  have HN := Lib.hid hn
  have HC := Lib.hid hc
  have HS := Lib.hid hs
  have hgd := guard_en
  clear hs hn hc
  go_enter Try.func21, Try.ntmps21
  go_wp2
  go_loopw [3] (fun i wr => ∃ k : Nat, k ≤ n ∧ i = .int .i64 k ∧ Hid (endsB (xs.take k) = true) ∧ Hid ((xs.take k).Nodup) ∧ Below w.heap.size w wr) (fun i _ => n - (intOf i).toNat)
  case atStart => exact ⟨0, Nat.zero_le _, rfl, Lib.hid rfl, Lib.hid (by simp), Below.refl _ _⟩
  case round =>
    obtain ⟨k, hk, rfl, HA, HD, hbw⟩ := hrel
    by_cases hlt : k < n
    · obtain ⟨x, hx⟩ : ∃ x, xs[k]? = some x := ⟨xs[k]'(by have := HN.out; omega), List.getElem?_eq_getElem _⟩
      obtain ⟨c0, c1, c2⟩ := (HC.out k x hx).below hbw hbl
      have hsx := HS.out x (List.mem_of_getElem? hx)
      have HX := Lib.hid hx
      obtain ⟨xo, xn, xc⟩ := x
      have hb1 := hbw.alloc hbw.size (.cells #[.string xo, .string xn, .int .i64 xc] 60)
      have HB := Lib.hid hb1
      have u1 : (0 : Int) ≤ (k : Int) := Int.natCast_nonneg _
      have u2 : (k : Int) < (n : Int) := by omega
      have C1 := Lib.hid (fun W => cLow06 xo W hsx.1)
      have C2 := Lib.hid (fun W => cLow06 xn W hsx.2)
      have ht : (xo.toList == xn.toList) = decide (xo = xn) := toList_beq xo xn
      clear hx hsx hb1
      rcases end_cases xo xn xc with ⟨hv, e1, e2, e3, e4, e5⟩ | ⟨hv, hr⟩
      · rw [e1] at C1
        rw [e2] at C2
        rw [decide_eq_false e3] at ht
        have HV := Lib.hid hv
        have d4 : decide (1 ≤ xc) = true := decide_eq_true e4
        have d5 : decide (xc ≤ 9) = true := decide_eq_true e5
        clear hv e1 e2 e3
        have n0 : (wr.alloc (.cells #[.string xo, .string xn, .int .i64 xc] 60)).cell? ⟨wr.heap.size, 0, none⟩ = some (.string xo) := by rw [World.cell?_alloc_at _ _ _ _ rfl]; rfl
        have n1 : (wr.alloc (.cells #[.string xo, .string xn, .int .i64 xc] 60)).cell? ⟨wr.heap.size, 1, none⟩ = some (.string xn) := by rw [World.cell?_alloc_at _ _ _ _ rfl]; rfl
        have n2 : (wr.alloc (.cells #[.string xo, .string xn, .int .i64 xc] 60)).cell? ⟨wr.heap.size, 2, none⟩ = some (.int .i64 xc) := by rw [World.cell?_alloc_at _ _ _ _ rfl]; rfl
        have q0 : wr.heap.size < (wr.alloc (.cells #[.string xo, .string xn, .int .i64 xc] 60)).heap.size := by simp
        have KB := Lib.hid (fun W (hW : Below (wr.alloc (.cells #[.string xo, .string xn, .int .i64 xc] 60)).heap.size (wr.alloc (.cells #[.string xo, .string xn, .int .i64 xc] 60)) W) => (⟨(hW.cell (p := ⟨wr.heap.size, 0, none⟩) q0).trans n0, (hW.cell (p := ⟨wr.heap.size, 1, none⟩) q0).trans n1, (hW.cell (p := ⟨wr.heap.size, 2, none⟩) q0).trans n2⟩ : W.cell? ⟨wr.heap.size, 0, none⟩ = some (.string xo) ∧ W.cell? ⟨wr.heap.size, 1, none⟩ = some (.string xn) ∧ W.cell? ⟨wr.heap.size, 2, none⟩ = some (.int .i64 xc)))
        clear n0 n1 n2
        go_wp2_with (first
          | (go_at_call_of 54 (Value.string xo); refine (C1.out _).mono ?_; rintro e w' ⟨rfl, rfl⟩)
          | (go_at_call_of 54 (Value.string xn); refine (C2.out _).mono ?_; rintro e w' ⟨rfl, rfl⟩)
          | (go_at_call 55; refine (cIn_any _ _ _ _).mono ?_; rintro e w' ⟨rfl, rfl⟩))
        go_loopw [5] (fun i wq => ∃ m : Nat, m ≤ k ∧ i = .int .i64 m ∧ Hid (((xo, xn, xc) : En) ∉ xs.take m) ∧ Below (wr.alloc (.cells #[.string xo, .string xn, .int .i64 xc] 60)).heap.size (wr.alloc (.cells #[.string xo, .string xn, .int .i64 xc] 60)) wq) (fun i _ => k - (intOf i).toNat)
        case atStart => exact ⟨0, Nat.zero_le _, rfl, Lib.hid (by simp), Below.refl _ _⟩
        case round =>
          obtain ⟨m, hm, rfl, HM, hbq⟩ := hrel
          by_cases hlm : m < k
          · obtain ⟨y, hy⟩ : ∃ y, xs[m]? = some y := ⟨xs[m]'(by have := HN.out; omega), List.getElem?_eq_getElem _⟩
            have hbt := HB.out.trans (hbq.mono HB.out.size)
            obtain ⟨d0, d1, d2⟩ := (HC.out m y hy).below hbt hbl
            obtain ⟨k0, k1, k2⟩ := KB.out _ hbq
            have HY := Lib.hid hy
            obtain ⟨yo, yn, yc⟩ := y
            have hq := run_eqEn yo yn xo xn yc xc
            have v1 : (0 : Int) ≤ (m : Int) := Int.natCast_nonneg _
            have v2 : (m : Int) < (n : Int) := by omega
            clear hy
            by_cases he : ((yo, yn, yc) : En) = (xo, xn, xc)
            · rw [decide_eq_true he] at hq
              have HT := Lib.hid (tabE_twice xs (nodupE_stop HX.out (in_take (by rw [HY.out, he]) hlm)))
              clear he
              go_wp2
              go_quiet (fail)
              go_wp2
              go_ret
              exact ⟨ret_bool HT.out.symm, below_drewN_q hbt _⟩
            · rw [decide_eq_false he] at hq
              have HT := Lib.hid (not_take_step HY.out HM.out he)
              clear he
              go_wp2
              go_quiet (fail)
              go_wp2
              go_roundw
              case rel => exact ⟨m + 1, by omega, by go_num, HT, below_drewN_q hbq _⟩
              case measure => simp [intOf]; omega
          · obtain rfl : m = k := by omega
            have hbt := HB.out.trans (hbq.mono HB.out.size)
            have HA2 := Lib.hid (ends_step HX.out HA.out HV.out)
            have HD2 := Lib.hid (nodupE_step HX.out HD.out HM.out)
            go_wp2
            go_roundw
            case rel => exact ⟨m + 1, by omega, by go_num, HA2, HD2, hbt⟩
            case measure => simp [intOf]; omega
      · have HT := Lib.hid (tabE_bad xs (ends_stop HX.out hv))
        clear hv
        rcases hr with h1 | ⟨h1, h2 | ⟨h2, h3 | ⟨h3, h4⟩⟩⟩
        · rw [h1] at C1
          clear h1
          go_wp2_with (go_at_call_of 54 (Value.string xo); refine (C1.out _).mono ?_; rintro e w' ⟨rfl, rfl⟩)
          go_ret
          exact ⟨ret_bool HT.out.symm, HB.out⟩
        · rw [h1] at C1
          rw [h2] at C2
          clear h1 h2
          go_wp2_with (first
            | (go_at_call_of 54 (Value.string xo); refine (C1.out _).mono ?_; rintro e w' ⟨rfl, rfl⟩)
            | (go_at_call_of 54 (Value.string xn); refine (C2.out _).mono ?_; rintro e w' ⟨rfl, rfl⟩))
          go_ret
          exact ⟨ret_bool HT.out.symm, HB.out⟩
        · rw [h1] at C1
          rw [h2] at C2
          rw [decide_eq_true h3] at ht
          clear h1 h2 h3
          go_wp2_with (first
            | (go_at_call_of 54 (Value.string xo); refine (C1.out _).mono ?_; rintro e w' ⟨rfl, rfl⟩)
            | (go_at_call_of 54 (Value.string xn); refine (C2.out _).mono ?_; rintro e w' ⟨rfl, rfl⟩))
          go_ret
          exact ⟨ret_bool HT.out.symm, HB.out⟩
        · rw [h1] at C1
          rw [h2] at C2
          rw [decide_eq_false h3] at ht
          have C3 := Lib.hid (fun W => cIn_any xc 1 9 W)
          rw [h4] at C3
          clear h1 h2 h3 h4
          go_wp2_with (first
            | (go_at_call_of 54 (Value.string xo); refine (C1.out _).mono ?_; rintro e w' ⟨rfl, rfl⟩)
            | (go_at_call_of 54 (Value.string xn); refine (C2.out _).mono ?_; rintro e w' ⟨rfl, rfl⟩)
            | (go_at_call 55; refine (C3.out _).mono ?_; rintro e w' ⟨rfl, rfl⟩))
          go_ret
          exact ⟨ret_bool HT.out.symm, HB.out⟩
    · have HE := Lib.hid (tabE_sum xs n HN.out (ends_all (k := k) (by have := HN.out; omega) HA.out) (by have := HD.out; rwa [List.take_of_length_le (by have := HN.out; omega)] at this))
      go_wp2
      go_ret
      exact ⟨ret_bool HE.out.symm, hbw⟩
theorem cTabE_spec_none (A : Option Addr) (c : Nat) (w : World) :
    Calls Try.prog 21 #[.slice A 0 c] w fun e w' => e = .returned (.bool true) ∧ w = w' := by
  go_enter Try.func21, Try.ntmps21
  go_wp2
  refine wp_loop_rounds 1 ?_
  rw [rounds_succ]
  go_wp2
  go_ret
  exact ⟨rfl, rfl⟩
theorem tTabE_spec (A : Option Addr) (n c : Nat) (xs : List En) (w : World) (hbig : n ≤ 1048576) (hs : ∀ e ∈ xs, e.1.size ≤ maxLen ∧ e.2.1.size ≤ maxLen) (h : EnAt w w.heap.size A n xs) :
    Calls Try.prog 21 #[.slice A n c] w fun e w' => e = .returned (.bool (tabE xs)) ∧ Below w.heap.size w w' := by
  rcases Nat.eq_zero_or_pos n with rfl | hp
  · obtain rfl : xs = [] := List.eq_nil_of_length_eq_zero h.1.symm
    exact (cTabE_spec_none A c w).mono fun e w' ⟨h1, h2⟩ => ⟨by rw [h1]; rfl, h2 ▸ Below.refl _ _⟩
  · obtain ⟨b, o, rfl, hb, hc⟩ := h.2 hp
    exact cTabE_spec b o c n xs w h.1 hbig hs hb hc
end Go.Proofs.Ytippjomkbpiliaa
