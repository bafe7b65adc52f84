/-
  The contract of impl.areWithin: whether all numbers of a list lie within two bounds.
-/
import Derived.Test.YtglmibmjbignbaaGreatDoorMz1
import Derived.Test.YtglmibmjbignbaaGreatDoorMz19
import Derived.Test.YtglmibmjbignbaaGreatDoorTr10P
import Derived.Test.YtglmibmjbignbaaGreatDoorMz20
namespace Go.Proofs.YtglmibmjbignbaaGreatDoor
section
set_option linter.unusedVariables false
open Go.RowKit

theorem NumAt.row {w : World} {B n : Nat} {A : Option Addr} {xs : List Int} (h : NumAt w B A n xs) {k : Nat} {x : Int} (hx : xs[k]? = some x) :
    ∃ b o, A = some ⟨b, o, none⟩ ∧ b < B ∧ w.cell? ⟨b, o + k, none⟩ = some (.int .i64 x) := by
  have := (List.getElem?_eq_some_iff.1 hx).1
  obtain ⟨b, o, h1, h2, h3⟩ := h.2 (by have := h.1; omega)
  exact ⟨b, o, h1, h2, h3 k x hx⟩

def allWn (lo hi : Int) (xs : List Int) : Bool := xs.all fun x => decide (lo ≤ x) && decide (x ≤ hi)
theorem allWn_zero (lo hi : Int) (xs : List Int) : allWn lo hi (xs.take 0) = true := rfl
theorem allWn_step {lo hi : Int} {xs : List Int} {k : Nat} {x : Int} (h : xs[k]? = some x) (ha : allWn lo hi (xs.take k) = true) (h1 : lo ≤ x) (h2 : x ≤ hi) : allWn lo hi (xs.take (k + 1)) = true := by
  have hk := (List.getElem?_eq_some_iff.1 h).1
  have hx : xs[k] = x := (List.getElem?_eq_some_iff.1 h).2
  rw [List.take_succ_eq_append_getElem hk, hx]; unfold allWn at *; simp only [List.all_append, ha, List.all_cons, List.all_nil, decide_eq_true h1, decide_eq_true h2]; rfl
theorem allWn_stop {lo hi : Int} {xs : List Int} {k : Nat} {x : Int} (h : xs[k]? = some x) (hb : x < lo ∨ hi < x) : allWn lo hi xs = false := by
  unfold allWn; rw [List.all_eq_false]
  refine ⟨x, List.mem_of_getElem? h, ?_⟩
  rw [Bool.and_eq_true, decide_eq_true_eq, decide_eq_true_eq]; omega
theorem allWn_end {lo hi : Int} {xs : List Int} {k : Nat} (h : xs.length ≤ k) : allWn lo hi (xs.take k) = allWn lo hi xs := by rw [List.take_of_length_le h]
theorem allWn_mem {lo hi : Int} {xs : List Int} (h : allWn lo hi xs = true) {x : Int} (hx : x ∈ xs) : lo ≤ x ∧ x ≤ hi := by
  unfold allWn at h; rw [List.all_eq_true] at h
  have := h x hx
  rw [Bool.and_eq_true, decide_eq_true_eq, decide_eq_true_eq] at this; exact this

set_option maxHeartbeats 400000 in
theorem cWithin (A : Option Addr) (n c B : Nat) (xs : List Int) (lo hi : Int) (w : World) (hbig : n ≤ maxLen) (h : NumAt w B A n xs) :
    Calls Tryz.prog 175 #[.slice A n c, .int .i64 lo, .int .i64 hi] w fun e w' => e = .returned (.bool (allWn lo hi xs)) ∧ w = w' := by
  unfold maxLen at hbig
  have HL := Lib.hid h.1
  have H := Lib.hid h
  clear h
  go_enter Tryz.func175, Tryz.ntmps175
  go_wp2
  go_loop [11] (fun i => ∃ k : Nat, k ≤ n ∧ i = .int .i64 k ∧ Hid (allWn lo hi (xs.take k) = true)) (fun i => n - (intOf i).toNat)
  case atStart => exact ⟨0, Nat.zero_le _, rfl, Lib.hid (allWn_zero lo hi xs)⟩
  case round =>
    obtain ⟨k, hk, rfl, HA⟩ := hrel
    by_cases hlt : k < n
    · obtain ⟨x, hx⟩ : ∃ x, xs[k]? = some x := ⟨xs[k]'(by have := HL.out; omega), List.getElem?_eq_getElem _⟩
      obtain ⟨b, o, rfl, _, hcx⟩ := H.out.row hx
      have HX := Lib.hid hx
      clear hx
      by_cases hx0 : x < lo
      · go_wp2
        go_ret
        exact ⟨ret_bool (allWn_stop HX.out (.inl hx0)).symm, rfl⟩
      by_cases hx1 : hi < x
      · go_wp2
        go_ret
        exact ⟨ret_bool (allWn_stop HX.out (.inr hx1)).symm, rfl⟩
      go_wp2
      go_round
      case rel => exact ⟨k + 1, by omega, by go_num, Lib.hid (allWn_step HX.out HA.out (by omega) (by omega))⟩
      case measure => simp [intOf]; omega
    · go_wp2
      go_ret
      exact ⟨ret_bool (by rw [← allWn_end (k := k) (by have := HL.out; omega)]; exact HA.out.symm), rfl⟩
end
section
set_option linter.unusedVariables false
open Go.RowKit

theorem NumAt.get {w : World} {B n : Nat} {A : Option Addr} {xs : List Int} (h : NumAt w B A n xs) {k : Nat} (hk : k < n) : ∃ x, xs[k]? = some x :=
  ⟨xs[k]'(by have := h.1; omega), List.getElem?_eq_getElem _⟩

set_option maxHeartbeats 1000000 in
theorem cTree_impl (A : Option Addr) (n c B : Nat) (xs : List Int) (w : World) (hb : n ≤ maxLen) (h : NumAt w B A n xs) :
    Calls Tryz.prog 94 #[.slice A n c] w fun e w' => e = .returned (.bool (treeB xs)) ∧ ∃ m, w' = w.drewN m := by
  unfold maxLen at hb
  have HL := Lib.hid h.1
  have H := Lib.hid h
  rcases Nat.eq_zero_or_pos n with rfl | hp
  · have HF := Lib.hid (tree_short (xs := xs) h.1.symm)
    clear h
    go_enter Tryz.func94, Tryz.ntmps94
    go_wp2
    go_ret
    exact ⟨ret_bool HF.out.symm, 0, rfl⟩
  by_cases h20 : 20 < n
  · have HF := Lib.hid (tree_long (xs := xs) (by have := h.1; omega))
    clear h
    go_enter Tryz.func94, Tryz.ntmps94
    go_wp2
    go_ret
    exact ⟨ret_bool HF.out.symm, 0, rfl⟩
  obtain ⟨x0, hx0⟩ := h.get hp
  obtain ⟨b, o, rfl, hbl, hc0⟩ := h.row hx0
  rw [Nat.add_zero] at hc0
  have g1 : decide ((n : Int) < 1) = false := decide_eq_false (by omega)
  have g2 : decide ((20 : Int) < (n : Int)) = false := decide_eq_false (by omega)
  by_cases hm : x0 = -1
  · subst hm
    have HX0 := Lib.hid hx0
    clear h hx0
    go_enter Tryz.func94, Tryz.ntmps94
    go_wp2
    go_loopw [3] (fun i wr => ∃ k m : Nat, 1 ≤ k ∧ k ≤ n ∧ i = .int .i64 k ∧ Hid (okT10 xs k = true) ∧ wr = w.drewN m) (fun i _ => n - (intOf i).toNat)
    case atStart => exact ⟨1, 0, Nat.le_refl _, hp, rfl, Lib.hid (okT10_one xs), rfl⟩
    case round =>
      obtain ⟨k, m, hk1, hk, rfl, HA, rfl⟩ := hrel
      by_cases hlt : k < n
      · obtain ⟨x, hx⟩ := H.out.get hlt
        obtain ⟨b', o', e, _, hcx⟩ := H.out.row hx
        cases e
        have HX := Lib.hid hx
        clear hx
        by_cases h0 : x < 0
        · have HF := Lib.hid (tree_bad (okT10_stop HX.out (by omega) (show k < xs.length by have := HL.out; omega) (.inl h0)))
          go_wp2
          first | done | (go_quiet (fail); go_wp2) | skip
          go_ret
          exact ⟨ret_bool HF.out.symm, _, rfl⟩
        by_cases h1 : (k : Int) ≤ x
        · have HF := Lib.hid (tree_bad (okT10_stop HX.out (by omega) (show k < xs.length by have := HL.out; omega) (.inr h1)))
          go_wp2
          first | done | (go_quiet (fail); go_wp2) | skip
          go_ret
          exact ⟨ret_bool HF.out.symm, _, rfl⟩
        have HA2 := Lib.hid (okT10_step HX.out HA.out (by omega) (by omega))
        go_wp2
        first | done | (go_quiet (fail); go_wp2) | skip
        go_roundw
        case rel => exact ⟨k + 1, _, by omega, by omega, by go_num, HA2, rfl⟩
        case measure => simp [intOf]; omega
      · obtain rfl : k = n := by omega
        have HF := Lib.hid (tree_yes (xs := xs) (by have := HL.out; omega) (by have := HL.out; omega) HX0.out (by rw [← HL.out]; exact HA.out))
        go_wp2
        go_ret
        exact ⟨ret_bool HF.out.symm, _, rfl⟩
  · have HF := Lib.hid (tree_head hx0 hm)
    have hd : (x0 == -1) = false := by rw [beq_eq_false_iff_ne]; exact hm
    have hd2 : (x0 != -1) = true := by rw [bne_iff_ne]; exact hm
    clear h hx0 hm
    go_enter Tryz.func94, Tryz.ntmps94
    go_wp2
    go_ret
    exact ⟨ret_bool HF.out.symm, 0, rfl⟩

theorem in_dec (x lo hi : Int) (h : lo ≤ x ∧ x ≤ hi) : (decide (lo ≤ x) && decide (x ≤ hi)) = true := by rw [decide_eq_true h.1, decide_eq_true h.2]; rfl
theorem in_dec2 (x lo hi : Int) (h : ¬ (lo ≤ x ∧ x ≤ hi)) : (decide (lo ≤ x) && decide (x ≤ hi)) = false := by rw [← Bool.decide_and]; exact decide_eq_false h
set_option maxHeartbeats 1000000 in
theorem cTree_spec (A : Option Addr) (n c B : Nat) (xs : List Int) (w : World) (hb : n ≤ maxLen) (h : NumAt w B A n xs) :
    Calls Tryz.prog 99 #[.slice A n c] w fun e w' => e = .returned (.bool (treeB xs)) ∧ ∃ m, w' = w.drewN m := by
  unfold maxLen at hb
  have HL := Lib.hid h.1
  have H := Lib.hid h
  have CL := Lib.hid (fun (W : World) => cIn_any (n : Int) 1 20 W)
  clear h
  go_enter Tryz.func99, Tryz.ntmps99
  go_wp2
  go_loopw [3] (fun i wr => ∃ k m : Nat, 1 ≤ k ∧ (k ≤ n ∨ k = 1) ∧ i = .int .i64 k ∧ Hid (okT10 xs k = true) ∧ wr = w.drewN m) (fun i _ => n - (intOf i).toNat)
  case atStart => exact ⟨1, 0, Nat.le_refl _, .inr rfl, rfl, Lib.hid (okT10_one xs), rfl⟩
  case round =>
    obtain ⟨k, m, hk1, hk, rfl, HA, rfl⟩ := hrel
    by_cases hlt : k < n
    · obtain ⟨x, hx⟩ := H.out.get hlt
      obtain ⟨b', o', rfl, _, hcx⟩ := H.out.row hx
      have HX := Lib.hid hx
      clear hx
      have CI := Lib.hid (fun (W : World) => cIn_any x 0 ((k : Int) - 1) W)
      by_cases h0 : 0 ≤ x ∧ x ≤ (k : Int) - 1
      · rw [in_dec _ _ _ h0] at CI
        have HA2 := Lib.hid (okT10_step HX.out HA.out h0.1 (by omega))
        clear h0
        go_wp2_with (go_at_call 83; refine (CI.out _).mono ?_; rintro e w' ⟨rfl, rfl⟩)
        go_roundw
        case rel => exact ⟨k + 1, _, by omega, .inl (by omega), by go_num, HA2, rfl⟩
        case measure => simp [intOf]; omega
      · rw [in_dec2 _ _ _ h0] at CI
        have HF := Lib.hid (tree_bad (okT10_stop HX.out (by omega) (show k < xs.length by have := HL.out; omega) (by omega)))
        clear h0
        go_wp2_with (go_at_call 83; refine (CI.out _).mono ?_; rintro e w' ⟨rfl, rfl⟩)
        go_ret
        exact ⟨ret_bool HF.out.symm, _, rfl⟩
    · by_cases hl : 1 ≤ n ∧ n ≤ 20
      · rw [in_dec _ _ _ (show (1 : Int) ≤ (n : Int) ∧ (n : Int) ≤ 20 by omega)] at CL
        obtain ⟨x0, hx0⟩ := H.out.get (show 0 < n by omega)
        obtain ⟨b, o, rfl, hbl, hc0⟩ := H.out.row hx0
        rw [Nat.add_zero] at hc0
        by_cases hm : x0 = -1
        · subst hm
          obtain rfl : k = n := by omega
          have HF := Lib.hid (tree_yes (xs := xs) (by have := HL.out; omega) (by have := HL.out; omega) hx0 (by rw [← HL.out]; exact HA.out))
          clear hx0
          go_wp2_with (go_at_call 83; refine (CL.out _).mono ?_; rintro e w' ⟨rfl, rfl⟩)
          go_ret
          exact ⟨ret_bool HF.out.symm, _, rfl⟩
        · have HF := Lib.hid (tree_head hx0 hm)
          have hd : (x0 == -1) = false := by rw [beq_eq_false_iff_ne]; exact hm
          clear hx0 hm
          go_wp2_with (go_at_call 83; refine (CL.out _).mono ?_; rintro e w' ⟨rfl, rfl⟩)
          go_ret
          exact ⟨ret_bool HF.out.symm, _, rfl⟩
      · rw [in_dec2 _ _ _ (show ¬ ((1 : Int) ≤ (n : Int) ∧ (n : Int) ≤ 20) by omega)] at CL
        have HF : Hid (treeB xs = false) := Lib.hid (by
          have := HL.out
          rcases Nat.eq_zero_or_pos n with h0 | h0
          · exact tree_short (by omega)
          · exact tree_long (by omega))
        clear hl
        go_wp2_with (go_at_call 83; refine (CL.out _).mono ?_; rintro e w' ⟨rfl, rfl⟩)
        go_ret
        exact ⟨ret_bool HF.out.symm, _, rfl⟩

theorem nmem_step {ig : List Int} {k : Nat} {x y : Int} (h : ig[k]? = some y) (hn : x ∉ ig.take k) (hne : y ≠ x) : x ∉ ig.take (k + 1) := by
  have hl := (List.getElem?_eq_some_iff.1 h).1
  have hh : ig[k] = y := (List.getElem?_eq_some_iff.1 h).2
  rw [List.take_succ_eq_append_getElem hl, hh, List.mem_append, List.mem_singleton]
  rintro (h | h)
  · exact hn h
  · exact hne h.symm
theorem nmem_all {ig : List Int} {k : Nat} {x : Int} (hn : x ∉ ig.take k) (hl : ig.length ≤ k) : x ∉ ig := by rwa [List.take_of_length_le hl] at hn
set_option maxHeartbeats 400000 in
theorem cHas10 (A : Option Addr) (n c B : Nat) (ig : List Int) (x : Int) (w : World) (hbig : n ≤ maxLen) (h : NumAt w B A n ig) :
    Calls Tryz.prog 100 #[.slice A n c, .int .i64 x] w fun e w' => e = .returned (.bool (decide (x ∈ ig))) ∧ w = w' := by
  unfold maxLen at hbig
  have HL := Lib.hid h.1
  have H := Lib.hid h
  clear h
  go_enter Tryz.func100, Tryz.ntmps100
  go_wp2
  go_loop [5] (fun i => ∃ k : Nat, k ≤ n ∧ i = .int .i64 k ∧ Hid (x ∉ ig.take k)) (fun i => n - (intOf i).toNat)
  case atStart => exact ⟨0, Nat.zero_le _, rfl, Lib.hid (by simp)⟩
  case round =>
    obtain ⟨k, hk, rfl, HA⟩ := hrel
    by_cases hlt : k < n
    · obtain ⟨y, hy⟩ := H.out.get hlt
      obtain ⟨b, o, rfl, _, hcx⟩ := H.out.row hy
      have HY := Lib.hid hy
      clear hy
      by_cases he : y = x
      · have hd : (y == x) = true := by simp [he]
        have HR := Lib.hid (show decide (x ∈ ig) = true from decide_eq_true (by rw [← he]; exact List.mem_of_getElem? HY.out))
        clear he
        go_wp2
        go_ret
        exact ⟨ret_bool HR.out.symm, rfl⟩
      · have hd : (y == x) = false := by simp [he]
        have HE := Lib.hid he
        clear he
        go_wp2
        go_round
        case rel => exact ⟨k + 1, by omega, by go_num, Lib.hid (nmem_step HY.out HA.out HE.out)⟩
        case measure => simp [intOf]; omega
    · have HR := Lib.hid (show decide (x ∈ ig) = false from decide_eq_false (nmem_all HA.out (by have := HL.out; omega)))
      go_wp2
      go_ret
      exact ⟨ret_bool HR.out.symm, rfl⟩

/-- The place of a number in a list, or -1. -/
def idxZ (xs : List Int) (x : Int) : Int := if x ∈ xs then ((xs.idxOf x : Nat) : Int) else -1
theorem idxZ_no {xs : List Int} {x : Int} (h : x ∉ xs) : idxZ xs x = -1 := if_neg h
theorem idxZ_yes {xs : List Int} {x : Int} (h : x ∈ xs) : idxZ xs x = ((xs.idxOf x : Nat) : Int) := if_pos h
theorem idxOf_first : ∀ (xs : List Int) (k : Nat) (x : Int), xs[k]? = some x → x ∉ xs.take k → xs.idxOf x = k
  | [], k, x, h, _ => by simp at h
  | y :: ys, 0, x, h, _ => by
    simp at h
    rw [h, List.idxOf_cons_self]
  | y :: ys, k + 1, x, h, hn => by
    rw [List.getElem?_cons_succ] at h
    rw [List.take_succ_cons, List.mem_cons, not_or] at hn
    rw [List.idxOf_cons, idxOf_first ys k x h hn.2, show (y == x) = false by rw [beq_eq_false_iff_ne]; exact fun e => hn.1 e.symm]
    rfl
set_option maxHeartbeats 400000 in
theorem cIndex10 (A : Option Addr) (n c B : Nat) (ig : List Int) (x : Int) (w : World) (hbig : n ≤ maxLen) (h : NumAt w B A n ig) :
    Calls Tryz.prog 145 #[.slice A n c, .int .i64 x] w fun e w' => e = .returned (.int .i64 (idxZ ig x)) ∧ w = w' := by
  unfold maxLen at hbig
  have HL := Lib.hid h.1
  have H := Lib.hid h
  clear h
  go_enter Tryz.func145, Tryz.ntmps145
  go_wp2
  go_loop [5, 8] (fun u i => ∃ (k : Nat) (q : Value), u = q ∧ k ≤ n ∧ i = .int .i64 k ∧ Hid (x ∉ ig.take k)) (fun _ i => n - (intOf i).toNat)
  case atStart => exact ⟨0, _, rfl, Nat.zero_le _, rfl, Lib.hid (by simp)⟩
  case round =>
    obtain ⟨k, q, rfl, hk, rfl, HA⟩ := hrel
    by_cases hlt : k < n
    · obtain ⟨y, hy⟩ := H.out.get hlt
      obtain ⟨b, o, rfl, _, hcx⟩ := H.out.row hy
      have HY := Lib.hid hy
      clear hy
      by_cases he : y = x
      · subst he
        have hd : (y == y) = true := by simp
        have HR := Lib.hid (show idxZ ig y = (k : Int) by rw [idxZ_yes (List.mem_of_getElem? HY.out), idxOf_first ig k y HY.out HA.out])
        go_wp2
        go_ret
        exact ⟨ret_int HR.out.symm, rfl⟩
      · have hd : (x == y) = false := by rw [beq_eq_false_iff_ne]; exact fun e => he e.symm
        have HE := Lib.hid he
        clear he
        go_wp2
        go_round
        case rel => exact ⟨k + 1, _, rfl, by omega, by go_num, Lib.hid (nmem_step HY.out HA.out HE.out)⟩
        case measure => simp [intOf]; omega
    · have HR := Lib.hid (show idxZ ig x = -1 from idxZ_no (nmem_all HA.out (by have := HL.out; omega)))
      go_wp2
      go_ret
      exact ⟨ret_int HR.out.symm, rfl⟩
theorem cContains10 (A : Option Addr) (n c B : Nat) (ig : List Int) (x : Int) (w : World) (hbig : n ≤ maxLen) (h : NumAt w B A n ig) :
    Calls Tryz.prog 98 #[.slice A n c, .int .i64 x] w fun e w' => e = .returned (.bool (decide (x ∈ ig))) ∧ w = w' := by
  have CI := Lib.hid (cIndex10 A n c B ig x w hbig h)
  clear h
  by_cases hm : x ∈ ig
  · rw [decide_eq_true hm]
    rw [idxZ_yes hm] at CI
    obtain ⟨k, hk⟩ : ∃ k, k = ig.idxOf x := ⟨_, rfl⟩
    rw [← hk] at CI
    clear hm hk
    go_enter Tryz.func98, Tryz.ntmps98
    go_wp2_with (go_at_call 145; refine CI.out.mono ?_; rintro e w' ⟨rfl, rfl⟩)
    go_ret
    exact ⟨rfl, rfl⟩
  · rw [decide_eq_false hm]
    rw [idxZ_no hm] at CI
    clear hm
    go_enter Tryz.func98, Tryz.ntmps98
    go_wp2_with (go_at_call 145; refine CI.out.mono ?_; rintro e w' ⟨rfl, rfl⟩)
    go_ret
    exact ⟨rfl, rfl⟩
end
end Go.Proofs.YtglmibmjbignbaaGreatDoor
