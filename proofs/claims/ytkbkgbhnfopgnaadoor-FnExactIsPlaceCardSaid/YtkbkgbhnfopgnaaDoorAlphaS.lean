/-
  The contracts of spec.l03Lower, spec.l03Find and spec.IsAlphabet.
-/
import Derived.Test.YtkbkgbhnfopgnaaDoorIsWord
import Derived.Test.YtkbkgbhnfopgnaaDoorAlphaPlain
namespace Go.Proofs.YtkbkgbhnfopgnaaDoor
set_option linter.unusedVariables false
open Go.RowKit

set_option maxHeartbeats 400000 in
theorem cLower (s : ByteArray) (w : World) (hs : s.size ≤ maxLen) :
    Calls Tryd.prog 90 #[.string s, .int .i64 1, .int .i64 3] w fun e w' => e = .returned (.bool (letterB s)) ∧ w = w' := by
  unfold maxLen at hs
  go_enter Tryd.func90, Tryd.ntmps90
  go_wp2
  go_loop [7] (fun i => ∃ k : Nat, k ≤ s.size ∧ i = .int .i64 k ∧ Hid (lowAll (s.data.toList.take k) = true)) (fun i => s.size - (intOf i).toNat)
  case atStart => exact ⟨0, Nat.zero_le _, rfl, Lib.hid (lowAll_zero s)⟩
  case round =>
    obtain ⟨k, hk, rfl, HA⟩ := hrel
    by_cases hlt : k < s.size
    · go_wp2
      all_goals first
        | (have hno : (s[k].toNat : Int) < 97 ∨ (122 : Int) < (s[k].toNat : Int) := by first | assumption | omega
           go_ret
           exact ⟨ret_bool (letter_stop s k hlt (lowB_no _ hno)).symm, rfl⟩)
        | (go_round
           case rel => exact ⟨k + 1, by omega, by go_num, Lib.hid (lowAll_step s k hlt HA.out (lowB_yes _ (by omega) (by omega)))⟩
           case measure => simp [intOf]; omega)
    · go_wp2_with (go_at_call 35; refine (cIn_any _ _ _ _).mono ?_; rintro e w' ⟨rfl, rfl⟩)
      go_ret
      exact ⟨ret_bool (letter_sum s ((lowAll_end s k (by omega)).symm.trans HA.out)).symm, rfl⟩

theorem toList_beq (a b : ByteArray) : (a.toList == b.toList) = decide (a = b) := by
  by_cases h : a = b
  · simp [h]
  · rw [decide_eq_false h, beq_eq_false_iff_ne]
    intro e
    rw [ByteArray.toList_eq, ByteArray.toList_eq] at e
    exact h (ByteArray.ext (Array.toList_inj.1 e))
theorem take_snocL {xs : List ByteArray} {k : Nat} {x : ByteArray} (h : xs[k]? = some x) : xs.take (k + 1) = xs.take k ++ [x] := by
  have hk : k < xs.length := (List.getElem?_eq_some_iff.1 h).1
  have hx : xs[k] = x := (List.getElem?_eq_some_iff.1 h).2
  rw [List.take_succ_eq_append_getElem hk, hx]

end Go.Proofs.YtkbkgbhnfopgnaaDoor
