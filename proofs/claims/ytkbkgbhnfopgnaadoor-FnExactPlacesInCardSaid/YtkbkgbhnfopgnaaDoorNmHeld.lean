/-
  The laws' helper heldNameS on rows of names that bear marks.
-/
import Derived.Test.YtkbkgbhnfopgnaaDoorNmMark
import Derived.Test.YtkbkgbhnfopgnaaDoorChk9
namespace Go.Proofs.YtkbkgbhnfopgnaaDoor
set_option linter.unusedVariables false
open Go.RowKit

set_option maxHeartbeats 4000000 in
set_option maxRecDepth 100000 in
theorem uHeldN (lo : Nat) (A : Option Addr) (n c k : Nat) (w : World) (hk : 1 ≤ k) (hk2 : k ≤ 1073741824) (hn : n ≤ 1048576) (h : w.ownsRow lo 65 5 (.slice A n c) n (nmV (marksN k n))) :
    Calls Tryd.prog 60 #[.slice A n c, .int .i64 (k : Int)] w fun e w' => e = .returned (.int .i64 ((k + 5 * n : Nat) : Int)) ∧ Below w.heap.size w w' := by
  have H := Lib.hid (own_nm h)
  clear h
  go_enter Tryd.func60, Tryd.ntmps60
  go_wp2_with fail
  go_loopw [1, 5] (fun kk i wr => ∃ (j : Nat), j ≤ n ∧ i = .int .i64 j ∧ kk = .int .i64 ((k : Int) + 5 * j) ∧ Below w.heap.size w wr) (fun _ i _ => n - (intOf i).toNat)
  case atStart => exact ⟨0, Nat.zero_le _, rfl, by simp, Below.refl _ _⟩
  case round =>
    obtain ⟨j, hj, rfl, rfl, hbw⟩ := hrel
    by_cases hlt : j < n
    · have hm0 := fun W => cMarkText (k + 5 * j) W (by omega) (by omega)
      have hm1 := fun W => cMarkText (k + 5 * j + 1) W (by omega) (by omega)
      rw [show ((k + 5 * j : Nat) : Int) = (k : Int) + 5 * (j : Int) from by omega] at hm0
      rw [show ((k + 5 * j + 1 : Nat) : Int) = (k : Int) + 5 * (j : Int) + 1 from by omega] at hm1
      have HM0 := Lib.hid hm0
      have HM1 := Lib.hid hm1
      obtain ⟨b, o, hA, hbl, q0, q1, q2, q3, q4⟩ := (H.out.below hbw (Nat.le_refl _)).row (marksN_at k n j hlt)
      subst hA
      unfold markN1 at q0 q1 q2 q3 q4
      dsimp only at q0 q1 q2 q3 q4
      rw [show ((k + 5 * j : Nat) : Int) = (k : Int) + 5 * (j : Int) from by omega] at q2 q3 q4
      have l1 := Nat.lt_of_lt_of_le hbl hbw.size
      have KC : Hid (∀ W, Below wr.heap.size wr W → W.cell? ⟨b, o + j * 5, none⟩ = some (.string (markB (k + 5 * j))) ∧ W.cell? ⟨b, o + j * 5 + 1, none⟩ = some (.string (markB (k + 5 * j + 1))) ∧ W.cell? ⟨b, o + j * 5 + 2, none⟩ = some (.int .i64 ((k : Int) + 5 * (j : Int) + 1 + 1)) ∧ W.cell? ⟨b, o + j * 5 + 3, none⟩ = some (.int .i64 ((k : Int) + 5 * (j : Int) + 1 + 1 + 1)) ∧ W.cell? ⟨b, o + j * 5 + 4, none⟩ = some (.int .i64 ((k : Int) + 5 * (j : Int) + 1 + 1 + 1 + 1))) := Lib.hid (fun W hW =>
        ⟨(hW.cell (p := ⟨b, o + j * 5, none⟩) l1).trans q0, (hW.cell (p := ⟨b, o + j * 5 + 1, none⟩) l1).trans q1, (hW.cell (p := ⟨b, o + j * 5 + 2, none⟩) l1).trans q2, (hW.cell (p := ⟨b, o + j * 5 + 3, none⟩) l1).trans q3, (hW.cell (p := ⟨b, o + j * 5 + 4, none⟩) l1).trans q4⟩)
      have u1 : (0 : Int) ≤ (j : Int) := Int.natCast_nonneg _
      have u2 : (j : Int) < (n : Int) := by omega
      have u3 : (0 : Int) ≤ (k : Int) := Int.natCast_nonneg _
      have u4 : (k : Int) + 5 * (j : Int) ≤ 1099511627776 := by omega
      obtain ⟨m0, hmm0⟩ : ∃ m, m = markB (k + 5 * j) := ⟨_, rfl⟩
      obtain ⟨m1, hmm1⟩ : ∃ m, m = markB (k + 5 * j + 1) := ⟨_, rfl⟩
      rw [← hmm0] at HM0 KC
      rw [← hmm1] at HM1 KC
      have z0 : (m0.toList != m0.toList) = false := by simp
      have z1 : (m1.toList != m1.toList) = false := by simp
      have z2 : ((k : Int) + 5 * (j : Int) + 1 + 1 != (k : Int) + 5 * (j : Int) + 1 + 1) = false := by simp
      have z3 : ((k : Int) + 5 * (j : Int) + 1 + 1 + 1 != (k : Int) + 5 * (j : Int) + 1 + 1 + 1) = false := by simp
      have z4 : ((k : Int) + 5 * (j : Int) + 1 + 1 + 1 + 1 != (k : Int) + 5 * (j : Int) + 1 + 1 + 1 + 1) = false := by simp
      have HB := Lib.hid hbw
      clear hm0 hm1 hmm0 hmm1 q0 q1 q2 q3 q4 hbw
      go_wp2_with fail
      obtain ⟨T, f, t0, hT, ht0, hf, hback⟩ := class_of wr
      have k0 : ∀ t, (f t).cell? ⟨b, o + j * 5, none⟩ = some (.string m0) := fun t => (KC.out _ (hf t)).1
      have HF := Lib.hid hf
      have HK := Lib.hid hback
      clear hf hback
      refine wp_region_class f t0 ht0 (by kernel_rfl) (by kernel_rfl) ?_
      clear ht0
      repeat (go_big_quiet_step (first | (go_at_call 54; exact Calls.class_of HF.out HK.out (HM0.out _))))
      refine wpQuiet_nil ?_
      rintro w1 ⟨t, rfl⟩
      have g1 := HF.out t
      obtain ⟨w2, hw2⟩ : ∃ w2, w2 = f t := ⟨_, rfl⟩
      rw [← hw2] at g1 ⊢
      have G1 := Lib.hid g1
      clear g1 HF HK k0 hw2 hT
      go_wp2_with fail
      obtain ⟨T', f', t0', hT', ht0', hf', hback'⟩ := class_of w2
      have k1 : ∀ t, (f' t).cell? ⟨b, o + j * 5 + 1, none⟩ = some (.string m1) := fun t => (KC.out _ (G1.out.trans ((hf' t).mono G1.out.size))).2.1
      have HF := Lib.hid hf'
      have HK := Lib.hid hback'
      clear hf' hback'
      refine wp_region_class f' t0' ht0' (by kernel_rfl) (by kernel_rfl) ?_
      clear ht0'
      repeat (go_big_quiet_step (first | (go_at_call 54; exact Calls.class_of HF.out HK.out (HM1.out _))))
      refine wpQuiet_nil ?_
      rintro w3 ⟨t', rfl⟩
      have g2 := G1.out.trans ((HF.out t').mono G1.out.size)
      obtain ⟨w4, hw4⟩ : ∃ w4, w4 = f' t' := ⟨_, rfl⟩
      rw [← hw4] at g2 ⊢
      have hbt := HB.out.trans (g2.mono HB.out.size)
      obtain ⟨_, _, c2, c3, c4⟩ := KC.out w4 g2
      clear g2 HF HK k1 hw4 hT'
      go_wp2_with fail
      go_roundw
      case rel => exact ⟨j + 1, by omega, by go_num, by go_num, hbt⟩
      case measure => simp [intOf]; omega
    · obtain rfl : j = n := by omega
      go_wp2_with fail
      go_ret
      exact ⟨ret_int (by omega), hbw⟩
end Go.Proofs.YtkbkgbhnfopgnaaDoor
