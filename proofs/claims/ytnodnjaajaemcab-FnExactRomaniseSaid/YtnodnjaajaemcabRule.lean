/-
  The contracts of the functions that ask whether numbers are signs and whether a value is a rule.
-/
import Derived.Test.YtnodnjaajaemcabIsWord
import Derived.Test.YtnodnjaajaemcabRulePlain
import Derived.Test.YtnodnjaajaemcabWithin
namespace Go.Proofs.Ytnodnjaajaemcab
set_option linter.unusedVariables false
open Go.RowKit

set_option maxHeartbeats 400000 in
theorem cAreSigns (A : Option Addr) (n c m B : Nat) (xs : List Int) (w : World) (hbig : n ≤ maxLen) (hm : m ≤ 1000) (h : NumAt w B A n xs) :
    Calls Try.prog 33 #[.slice A n c, .int .i64 (m : Int)] w fun e w' => e = .returned (.bool (signsB m xs)) ∧ w = w' := by
  have CW := Lib.hid (cWithin A n c B xs 0 19 w hbig h)
  unfold maxLen at hbig
  have HL := Lib.hid h.1
  clear h
  by_cases h0 : n < 1
  · have HX := Lib.hid (signs_none m xs (by have := HL.out; omega))
    go_enter Try.func33, Try.ntmps33
    go_wp2
    go_ret
    exact ⟨ret_bool HX.out.symm, rfl⟩
  by_cases h1 : m < n
  · have HX := Lib.hid (signs_long m xs (by have := HL.out; omega))
    have h1' : (m : Int) < (n : Int) := by omega
    go_enter Try.func33, Try.ntmps33
    go_wp2
    go_ret
    exact ⟨ret_bool HX.out.symm, rfl⟩
  have HX : Hid (allW 0 19 xs = signsB m xs) := Lib.hid (by
    unfold signsB
    rw [decide_eq_true (by have := HL.out; omega : 1 ≤ xs.length), decide_eq_true (by have := HL.out; omega : xs.length ≤ m), Bool.and_true, Bool.and_true]; rfl)
  have h1' : (n : Int) ≤ (m : Int) := by omega
  go_enter Try.func33, Try.ntmps33
  go_wp2_with (go_at_call 44; refine CW.out.mono ?_; rintro e w' ⟨rfl, rfl⟩)
  go_ret
  exact ⟨ret_bool HX.out, rfl⟩

set_option maxHeartbeats 400000 in
theorem cSigns (A : Option Addr) (n c m B : Nat) (xs : List Int) (w : World) (hbig : n ≤ maxLen) (hm : m ≤ 1000) (h : NumAt w B A n xs) :
    Calls Try.prog 30 #[.slice A n c, .int .i64 (m : Int)] w fun e w' => e = .returned (.bool (signsB m xs)) ∧ w = w' := by
  unfold maxLen at hbig
  have HL := Lib.hid h.1
  have H := Lib.hid h
  clear h
  go_enter Try.func30, Try.ntmps30
  go_wp2
  go_loop [5] (fun i => ∃ k : Nat, k ≤ n ∧ i = .int .i64 k ∧ Hid (allS (xs.take k) = true)) (fun i => n - (intOf i).toNat)
  case atStart => exact ⟨0, Nat.zero_le _, rfl, Lib.hid (allS_zero xs)⟩
  case round =>
    obtain ⟨k, hk, rfl, HA⟩ := hrel
    by_cases hlt : k < n
    · obtain ⟨x, hx⟩ : ∃ x, xs[k]? = some x := ⟨xs[k]'(by have := HL.out; omega), List.getElem?_eq_getElem _⟩
      obtain ⟨b, o, rfl, _, hcx⟩ := H.out.row hx
      have HX := Lib.hid hx
      clear hx
      by_cases hx0 : 0 ≤ x ∧ x ≤ 19
      · have hd : (decide (0 ≤ x) && decide (x ≤ 19)) = true := by simp [hx0]
        go_wp2_with (go_at_call 41; refine (cIn_any _ _ _ _).mono ?_; rintro e w' ⟨rfl, rfl⟩)
        go_round
        case rel => exact ⟨k + 1, by omega, by go_num, Lib.hid (allS_step HX.out HA.out (signB_yes (by omega) (by omega)))⟩
        case measure => simp [intOf]; omega
      · have hd : (decide (0 ≤ x) && decide (x ≤ 19)) = false := by
          cases h : (decide (0 ≤ x) && decide (x ≤ 19))
          · rfl
          · simp at h; omega
        go_wp2_with (go_at_call 41; refine (cIn_any _ _ _ _).mono ?_; rintro e w' ⟨rfl, rfl⟩)
        go_ret
        exact ⟨ret_bool (signs_bad m xs (allS_stop HX.out (signB_no (by omega)))).symm, rfl⟩
    · have HS := Lib.hid (signs_sum m xs (by rw [← allS_end (k := k) (by have := HL.out; omega)]; exact HA.out))
      go_wp2_with (go_at_call 41; refine (cIn_any _ _ _ _).mono ?_; rintro e w' ⟨rfl, rfl⟩)
      go_ret
      exact ⟨ret_bool (by rw [HS.out, ← HL.out]; simp), rfl⟩

set_option maxHeartbeats 400000 in
theorem cRom (s : ByteArray) (w : World) (hs : s.size ≤ maxLen) :
    Calls Try.prog 47 #[.string s, .int .i64 0, .int .i64 4] w fun e w' => e = .returned (.bool (romB s)) ∧ w = w' := by
  unfold maxLen at hs
  go_enter Try.func47, Try.ntmps47
  go_wp2
  go_loop [7] (fun i => ∃ k : Nat, k ≤ s.size ∧ i = .int .i64 k ∧ Hid (lowAll (s.data.toList.take k) = true)) (fun i => s.size - (intOf i).toNat)
  case atStart => exact ⟨0, Nat.zero_le _, rfl, Lib.hid (lowAll_zero s)⟩
  case round =>
    obtain ⟨k, hk, rfl, HA⟩ := hrel
    by_cases hlt : k < s.size
    · go_wp2
      all_goals first
        | (have hno : (s[k].toNat : Int) < 97 ∨ (122 : Int) < (s[k].toNat : Int) := by first | assumption | omega
           go_ret
           exact ⟨ret_bool (rom_stop s k hlt (lowB_no _ hno)).symm, rfl⟩)
        | (go_round
           case rel => exact ⟨k + 1, by omega, by go_num, Lib.hid (lowAll_step s k hlt HA.out (lowB_yes _ (by omega) (by omega)))⟩
           case measure => simp [intOf]; omega)
    · go_wp2_with (go_at_call 41; refine (cIn_any _ _ _ _).mono ?_; rintro e w' ⟨rfl, rfl⟩)
      go_ret
      exact ⟨ret_bool (rom_sum s ((lowAll_end s k (by omega)).symm.trans HA.out)).symm, rfl⟩

theorem toList_empty (s : ByteArray) : (s.toList == ([] : List UInt8)) = decide (s.size = 0) := by
  rw [ByteArray.toList_eq]
  by_cases h : s.size = 0
  · have : s.data.toList = [] := List.length_eq_zero_iff.1 (by simpa using h)
    rw [this, decide_eq_true h]; rfl
  · rw [decide_eq_false h, beq_eq_false_iff_ne]
    intro e
    exact h (by have := congrArg List.length e; simpa using this)

set_option maxHeartbeats 400000 in
theorem cIsRule_spec (A : Option Addr) (n c B : Nat) (r : Ru) (w : World) (hbig : n ≤ maxLen) (hs : r.2.size ≤ maxLen) (h : NumAt w B A n r.1) (hB : B ≤ w.heap.size) :
    Calls Try.prog 37 #[.agg #[.slice A n c, .string r.2]] w fun e w' => e = .returned (.bool (ruleB r)) ∧ Below w.heap.size w w' := by
  have CS := Lib.hid (fun W hb => cSigns A n c 3 B r.1 W hbig (by omega) (h.below hb hB))
  have CR := Lib.hid (fun W => cRom r.2 W hs)
  clear h
  have HB := Lib.hid ((Below.refl w.heap.size w).alloc (Nat.le_refl _) (.cells #[.slice A n c, .string r.2] 44))
  cases h1 : signsB 3 r.1
  · have HX : Hid (ruleB r = false) := Lib.hid (by unfold ruleB; rw [h1, Bool.and_false])
    rw [h1] at CS
    go_enter Try.func37, Try.ntmps37
    go_wp2_with (go_at_call 30; refine (CS.out _ HB.out).mono ?_; rintro e w' ⟨rfl, rfl⟩)
    go_ret
    exact ⟨ret_bool HX.out.symm, HB.out⟩
  · have HX : Hid (ruleB r = romB r.2) := Lib.hid (by unfold ruleB; rw [h1, Bool.and_true])
    rw [h1] at CS
    go_enter Try.func37, Try.ntmps37
    go_wp2_with (first
      | (go_at_call 30; refine (CS.out _ HB.out).mono ?_; rintro e w' ⟨rfl, rfl⟩)
      | (go_at_call 47; refine (CR.out _).mono ?_; rintro e w' ⟨rfl, rfl⟩))
    go_ret
    exact ⟨ret_bool HX.out.symm, HB.out⟩

set_option maxHeartbeats 400000 in
theorem cIsRule_impl (A : Option Addr) (n c B : Nat) (r : Ru) (w : World) (hbig : n ≤ maxLen) (hs : r.2.size ≤ maxLen) (h : NumAt w B A n r.1) (hB : B ≤ w.heap.size) :
    Calls Try.prog 42 #[.agg #[.slice A n c, .string r.2]] w fun e w' => e = .returned (.bool (ruleB r)) ∧ Below w.heap.size w w' := by
  have CS := Lib.hid (fun W hb => cAreSigns A n c 3 B r.1 W hbig (by omega) (h.below hb hB))
  have CW := Lib.hid (fun W => cLetters r.2 W hs)
  obtain ⟨xs, s⟩ := r
  clear h
  simp only at *
  unfold maxLen at hs
  have HB := Lib.hid ((Below.refl w.heap.size w).alloc (Nat.le_refl _) (.cells #[.slice A n c, .string s] 44))
  by_cases h4 : 4 < s.size
  · have HX : Hid (ruleB (xs, s) = false) := Lib.hid (by unfold ruleB; rw [rom_long s h4, Bool.false_and])
    go_enter Try.func42, Try.ntmps42
    go_wp2
    go_ret
    exact ⟨ret_bool HX.out.symm, HB.out⟩
  have h4' : (s.size : Int) ≤ 4 := by omega
  cases h1 : lowAll s.data.toList
  · have HX : Hid (ruleB (xs, s) = false) := Lib.hid (by unfold ruleB romB; rw [h1, Bool.and_false, Bool.false_and])
    rw [h1] at CW
    go_enter Try.func42, Try.ntmps42
    go_wp2_with (go_at_call 59; refine (CW.out _).mono ?_; rintro e w' ⟨rfl, rfl⟩)
    go_ret
    exact ⟨ret_bool HX.out.symm, HB.out⟩
  · have HX : Hid (ruleB (xs, s) = signsB 3 xs) := Lib.hid (by unfold ruleB romB; rw [h1, decide_eq_true (by omega : s.size ≤ 4), Bool.and_true, Bool.true_and])
    rw [h1] at CW
    go_enter Try.func42, Try.ntmps42
    go_wp2_with (first
      | (go_at_call 59; refine (CW.out _).mono ?_; rintro e w' ⟨rfl, rfl⟩)
      | (go_at_call 33; refine (CS.out _ HB.out).mono ?_; rintro e w' ⟨rfl, rfl⟩))
    go_ret
    exact ⟨ret_bool HX.out.symm, HB.out⟩
end Go.Proofs.Ytnodnjaajaemcab
