/-
  The contracts of spec.l01Start, spec.CommonStart and impl.CommonStart.
-/
import Derived.Test.YtdbbolnmcbhflaaAreWords
import Derived.Test.YtdbbolnmcbhflaaStartPlain
import Derived.Handy
namespace Go.Proofs.Ytdbbolnmcbhflaa
set_option linter.unusedVariables false
open Go.RowKit

theorem cTwo (a b : ByteArray) (w : World) (ha : a.size ≤ maxLen) (hb : b.size ≤ maxLen) :
    Calls Try.prog 30 #[.string a, .string b] w fun e w' => e = .returned (.int .i64 (if wordB a && wordB b then 0 else 1)) ∧ w = w' := by
  cases h1 : wordB a <;> cases h2 : wordB b
  all_goals
    go_enter Try.func30, Try.ntmps30
    go_wp2_with (first
      | (go_at_call 50; (with_reducible refine (cIsWord_spec a _ ha).mono ?_); rintro e w' ⟨rfl, rfl⟩)
      | (go_at_call 50; (with_reducible refine (cIsWord_spec b _ hb).mono ?_); rintro e w' ⟨rfl, rfl⟩))
    go_ret
    exact ⟨by simp, rfl⟩
set_option maxHeartbeats 400000 in
theorem cStart (a b : ByteArray) (w : World) (ha : a.size ≤ maxLen) (hb : b.size ≤ maxLen) :
    Calls Try.prog 32 #[.string a, .string b] w fun e w' => e = .returned (.int .i64 (startB a b)) ∧ ∃ n, w' = w.drewN n := by
  unfold maxLen at ha hb
  go_enter Try.func32, Try.ntmps32
  go_wp2
  go_loopw [5] (fun i wr => ∃ k m : Nat, k ≤ a.size ∧ k ≤ b.size ∧ i = .int .i64 k ∧ Hid (alike a b k) ∧ wr = w.drewN m) (fun i _ => a.size - (intOf i).toNat)
  case atStart => exact ⟨0, 0, Nat.zero_le _, Nat.zero_le _, rfl, Lib.hid (alike_zero a b), rfl⟩
  case round =>
    obtain ⟨k, m, hk1, hk2, rfl, HA, rfl⟩ := hrel
    by_cases h1 : k < a.size
    · by_cases h2 : k < b.size
      · by_cases h3 : a[k] = b[k]
        · have HE := Lib.hid h3
          clear h3
          have hd : ((a[k].toNat : Int) == (b[k].toNat : Int)) = true := by rw [HE.out]; simp
          go_wp2
          go_quiet (fail)
          go_wp2
          go_roundw
          case rel => exact ⟨k + 1, _, by omega, by omega, by go_num, Lib.hid (alike_step a b k h1 h2 HA.out HE.out), rfl⟩
          case measure => simp [intOf]; omega
        · have HE := Lib.hid h3
          clear h3
          have hd : ((a[k].toNat : Int) == (b[k].toNat : Int)) = false := by
            rw [beq_eq_false_iff_ne]; intro hh; exact HE.out (UInt8.toNat_inj.1 (by omega))
          go_wp2
          go_quiet (fail)
          go_wp2
          go_ret
          exact ⟨ret_int (by rw [start_stop a b k h1 h2 HA.out HE.out]), m + nq, by simp only [World.drewN_drewN]⟩
      · have hd1 : decide ((k : Int) < (b.size : Int)) = false := by simpa using h2
        go_wp2
        go_quiet (fail)
        go_wp2
        go_ret
        exact ⟨ret_int (by rw [start_end a b k hk1 hk2 HA.out (by omega)]), m + nq, by simp only [World.drewN_drewN]⟩
    · have hd1 : decide ((k : Int) < (a.size : Int)) = false := by simpa using h1
      go_wp2
      go_quiet (fail)
      go_wp2
      go_ret
      exact ⟨ret_int (by rw [start_end a b k hk1 hk2 HA.out (by omega)]), m + nq, by simp only [World.drewN_drewN]⟩

theorem cTwo_yes (a b : ByteArray) (w : World) (ha : a.size ≤ maxLen) (hb : b.size ≤ maxLen) (h : twoE a b = true) :
    Calls Try.prog 30 #[.string a, .string b] w fun e w' => e = .returned (.int .i64 0) ∧ w = w' := by
  refine (cTwo a b w ha hb).mono fun e w' ⟨he, hw⟩ => ⟨?_, hw⟩
  rw [he]; unfold twoE at h; rw [if_pos h]
theorem cTwo_no (a b : ByteArray) (w : World) (ha : a.size ≤ maxLen) (hb : b.size ≤ maxLen) (h : twoE a b = false) :
    Calls Try.prog 30 #[.string a, .string b] w fun e w' => e = .returned (.int .i64 1) ∧ w = w' := by
  refine (cTwo a b w ha hb).mono fun e w' ⟨he, hw⟩ => ⟨?_, hw⟩
  rw [he]; unfold twoE at h; rw [if_neg (by simp [h])]

theorem cCommonStart_spec_no (a b : ByteArray) (w : World) (ha : a.size ≤ maxLen) (hb : b.size ≤ maxLen) (h : twoE a b = false) :
    Calls Try.prog 12 #[.string a, .string b] w fun e w' => e = .returned (.tuple #[.string ByteArray.empty, .int .i64 1]) ∧ w = w' := by
  have H := Lib.hid h
  clear h
  go_enter Try.func12, Try.ntmps12
  go_wp2_with fail
  refine (cTwo_no a b _ ha hb H.out).mono ?_
  rintro e w' ⟨rfl, rfl⟩
  go_wp2_with fail
  go_ret2
  exact ⟨rfl, rfl⟩
theorem cCommonStart_spec_yes (a b : ByteArray) (w : World) (ha : a.size ≤ maxLen) (hb : b.size ≤ maxLen) (h : twoE a b = true) :
    Calls Try.prog 12 #[.string a, .string b] w fun e w' => e = .returned (.tuple #[.string (a.extract 0 (startB a b)), .int .i64 0]) ∧ ∃ n, w' = w.drewN n := by
  have H := Lib.hid h
  clear h
  have hle := (startB_le a b).1
  unfold maxLen at ha hb
  go_enter Try.func12, Try.ntmps12
  go_wp2_with fail
  refine (cTwo_yes a b _ ha hb H.out).mono ?_
  rintro e w' ⟨rfl, rfl⟩
  go_wp2_with fail
  refine (cStart a b _ ha hb).mono ?_
  rintro e w' ⟨rfl, n, rfl⟩
  go_wp2_with fail
  go_ret2
  exact ⟨rfl, _, rfl⟩
end Go.Proofs.Ytdbbolnmcbhflaa
