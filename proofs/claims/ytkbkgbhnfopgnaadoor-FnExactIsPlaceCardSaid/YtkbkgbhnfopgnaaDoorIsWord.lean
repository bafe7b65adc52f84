/-
  The contracts of spec.l01In and impl.areLetters: each returns a bool, and nothing in memory changes.
-/
import Derived.Test.YtkbkgbhnfopgnaaDoorChecked
import Derived.Test.YtkbkgbhnfopgnaaDoorPlain
import Derived.LoopTactic
import Derived.Outline
namespace Go.Proofs.YtkbkgbhnfopgnaaDoor
set_option linter.unusedVariables false
open Go.RowKit

theorem cIn_any (n lo hi : Int) (w : World) :
    Calls Tryd.prog 35 #[.int .i64 n, .int .i64 lo, .int .i64 hi] w fun e w' => e = .returned (.bool (decide (lo ≤ n) && decide (n ≤ hi))) ∧ w = w' := by
  by_cases h1 : lo ≤ n <;> by_cases h2 : n ≤ hi
  all_goals
    go_enter Tryd.func35, Tryd.ntmps35
    go_wp2
    go_ret
    exact ⟨by simp [h1, h2], rfl⟩

set_option maxHeartbeats 400000 in
theorem cLetters (s : ByteArray) (w : World) (hs : s.size ≤ maxLen) :
    Calls Tryd.prog 72 #[.string s] w fun e w' => e = .returned (.bool (lowAll s.data.toList)) ∧ w = w' := by
  unfold maxLen at hs
  go_enter Tryd.func72, Tryd.ntmps72
  go_wp2
  go_loop [6] (fun i => ∃ k : Nat, k ≤ s.size ∧ i = .int .i64 k ∧ Hid (lowAll (s.data.toList.take k) = true)) (fun i => s.size - (intOf i).toNat)
  case atStart => exact ⟨0, Nat.zero_le _, rfl, Lib.hid (lowAll_zero s)⟩
  case round =>
    obtain ⟨k, hk, rfl, HA⟩ := hrel
    by_cases hlt : k < s.size
    · go_wp2
      all_goals first
        | (have hno : (s[k].toNat : Int) < 97 ∨ (122 : Int) < (s[k].toNat : Int) := by first | assumption | omega
           go_ret
           exact ⟨ret_bool (lowAll_stop s k hlt (lowB_no _ hno)).symm, rfl⟩)
        | (go_round
           case rel => exact ⟨k + 1, by omega, by go_num, Lib.hid (lowAll_step s k hlt HA.out (lowB_yes _ (by omega) (by omega)))⟩
           case measure => simp [intOf]; omega)
    · go_wp2
      go_ret
      exact ⟨ret_bool ((lowAll_end s k (by omega)).symm.trans HA.out).symm, rfl⟩

theorem word_mid (s : ByteArray) (h0 : ¬ s.size < 1) (h1 : ¬ 16 < s.size) : wordB s = lowAll s.data.toList := by
  cases h : lowAll s.data.toList
  · unfold wordB; simp [h]
  · exact word_yes s (by omega) (by omega) h
set_option maxHeartbeats 400000 in
theorem cIsWord_impl (s : ByteArray) (w : World) (hs : s.size ≤ maxLen) :
    Calls Tryd.prog 46 #[.string s] w fun e w' => e = .returned (.bool (wordB s)) ∧ w = w' := by
  have CL := Lib.hid (cLetters s w hs)
  unfold maxLen at hs
  by_cases h0 : s.size < 1
  · have hx := word_none s h0
    have HX := Lib.hid hx; clear hx
    go_enter Tryd.func46, Tryd.ntmps46
    go_wp2
    go_ret
    exact ⟨ret_bool HX.out.symm, rfl⟩
  by_cases h1 : 16 < s.size
  · have hx := word_long s h1
    have HX := Lib.hid hx; clear hx
    go_enter Tryd.func46, Tryd.ntmps46
    go_wp2
    go_ret
    exact ⟨ret_bool HX.out.symm, rfl⟩
  have HX := Lib.hid (word_mid s h0 h1)
  go_enter Tryd.func46, Tryd.ntmps46
  go_wp2_with (go_at_call 72; refine CL.out.mono ?_; rintro e w' ⟨rfl, rfl⟩)
  go_ret
  exact ⟨ret_bool HX.out.symm, rfl⟩

set_option maxHeartbeats 400000 in
theorem cIsWord_spec (s : ByteArray) (w : World) (hs : s.size ≤ maxLen) :
    Calls Tryd.prog 34 #[.string s] w fun e w' => e = .returned (.bool (wordB s)) ∧ w = w' := by
  unfold maxLen at hs
  go_enter Tryd.func34, Tryd.ntmps34
  go_wp2
  go_loop [3] (fun i => ∃ k : Nat, k ≤ s.size ∧ i = .int .i64 k ∧ Hid (lowAll (s.data.toList.take k) = true)) (fun i => s.size - (intOf i).toNat)
  case atStart => exact ⟨0, Nat.zero_le _, rfl, Lib.hid (lowAll_zero s)⟩
  case round =>
    obtain ⟨k, hk, rfl, HA⟩ := hrel
    by_cases hlt : k < s.size
    · go_wp2
      all_goals first
        | (have hno : (s[k].toNat : Int) < 97 ∨ (122 : Int) < (s[k].toNat : Int) := by first | assumption | omega
           go_ret
           exact ⟨ret_bool (word_stop s k hlt (lowB_no _ hno)).symm, rfl⟩)
        | (go_round
           case rel => exact ⟨k + 1, by omega, by go_num, Lib.hid (lowAll_step s k hlt HA.out (lowB_yes _ (by omega) (by omega)))⟩
           case measure => simp [intOf]; omega)
    · go_wp2_with (go_at_call 35; refine (cIn_any _ _ _ _).mono ?_; rintro e w' ⟨rfl, rfl⟩)
      go_ret
      exact ⟨ret_bool (word_sum s ((lowAll_end s k (by omega)).symm.trans HA.out)).symm, rfl⟩
end Go.Proofs.YtkbkgbhnfopgnaaDoor
