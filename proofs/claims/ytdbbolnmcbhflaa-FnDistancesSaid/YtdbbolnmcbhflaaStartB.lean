/-
  The contract of impl.CommonStart: all that was there stays (Below).
-/
import Derived.Test.YtdbbolnmcbhflaaStart
import Derived.Below
namespace Go.Proofs.Ytdbbolnmcbhflaa
set_option linter.unusedVariables false
open Go.RowKit

theorem bCommonStart_impl_no (a b : ByteArray) (w : World) (ha : a.size ≤ maxLen) (hb : b.size ≤ maxLen) (h : twoE a b = false) :
    Calls Try.prog 11 #[.string a, .string b] w fun e w' => e = .returned (.tuple #[.string ByteArray.empty, .int .i64 1]) ∧ Below w.heap.size w w' := by
  have H := Lib.hid h
  clear h
  go_enter Try.func11, Try.ntmps11
  go_wp2_with fail
  refine (cAreWords2 a b _ ha hb).mono ?_
  rintro e w' ⟨rfl, rfl⟩
  rw [H.out]
  go_wp2_with fail
  go_ret2
  exact ⟨rfl, (Below.refl _ _).alloc (Nat.le_refl _) _⟩

set_option maxHeartbeats 400000 in
theorem bCommonStart_impl_yes (a b : ByteArray) (w : World) (ha : a.size ≤ maxLen) (hb : b.size ≤ maxLen) (h : twoE a b = true) :
    Calls Try.prog 11 #[.string a, .string b] w fun e w' => e = .returned (.tuple #[.string (a.extract 0 (startB a b)), .int .i64 0]) ∧ Below w.heap.size w w' := by
  have H := Lib.hid h
  clear h
  have hle := (startB_le a b).1
  go_enter Try.func11, Try.ntmps11
  go_wp2_with fail
  refine (cAreWords2 a b _ ha hb).mono ?_
  rintro e w' ⟨rfl, rfl⟩
  rw [H.out]
  unfold maxLen at ha hb
  obtain ⟨W, hW⟩ : ∃ W, W = w.alloc (.cells #[.string a, .string b] 9) := ⟨_, rfl⟩
  have hg : Below w.heap.size w W := by rw [hW]; exact (Below.refl _ _).alloc (Nat.le_refl _) _
  rw [← hW]
  clear hW
  go_wp2
  go_loopw [6] (fun i wr => ∃ k m : Nat, k ≤ a.size ∧ k ≤ b.size ∧ i = .int .i64 k ∧ Hid (alike a b k) ∧ wr = W.drewN m) (fun i _ => a.size - (intOf i).toNat)
  case atStart => exact ⟨0, 0, Nat.zero_le _, Nat.zero_le _, rfl, Lib.hid (alike_zero a b), rfl⟩
  case round =>
    obtain ⟨k, m, hk1, hk2, rfl, HA, rfl⟩ := hrel
    by_cases h1 : k < a.size
    · by_cases h2 : k < b.size
      · by_cases h3 : a[k] = b[k]
        · have HE := Lib.hid h3
          clear h3
          have hd : ((a[k].toNat : Int) == (b[k].toNat : Int)) = true := by rw [HE.out]; simp
          go_wp2
          go_quiet (fail)
          go_wp2
          go_roundw
          case rel => exact ⟨k + 1, _, by omega, by omega, by go_num, Lib.hid (alike_step a b k h1 h2 HA.out HE.out), rfl⟩
          case measure => simp [intOf]; omega
        · have HE := Lib.hid h3
          clear h3
          have hd : ((a[k].toNat : Int) == (b[k].toNat : Int)) = false := by
            rw [beq_eq_false_iff_ne]; intro hh; exact HE.out (UInt8.toNat_inj.1 (by omega))
          go_wp2
          go_quiet (fail)
          go_wp2
          go_ret2
          rw [start_stop a b k h1 h2 HA.out HE.out]
          exact ⟨rfl, ⟨hg.os, hg.tape, hg.output, hg.size, hg.block⟩⟩
      · have hd1 : decide ((k : Int) < (b.size : Int)) = false := by simpa using h2
        go_wp2
        go_quiet (fail)
        go_wp2
        go_ret2
        rw [start_end a b k hk1 hk2 HA.out (by omega)]
        exact ⟨rfl, ⟨hg.os, hg.tape, hg.output, hg.size, hg.block⟩⟩
    · have hd1 : decide ((k : Int) < (a.size : Int)) = false := by simpa using h1
      go_wp2
      go_quiet (fail)
      go_wp2
      go_ret2
      rw [start_end a b k hk1 hk2 HA.out (by omega)]
      exact ⟨rfl, ⟨hg.os, hg.tape, hg.output, hg.size, hg.block⟩⟩
end Go.Proofs.Ytdbbolnmcbhflaa
