/-
  The law of distances: what was drawn is two texts; the answers of the four functions are the numbers that they define, and these fit together.
-/
import Derived.Test.YtdbbolnmcbhflaaDrawTwo
import Derived.Test.YtdbbolnmcbhflaaDistMath
import Derived.Test.YtdbbolnmcbhflaaStartB
import Derived.Test.YtdbbolnmcbhflaaLcsImpl
import Derived.Test.YtdbbolnmcbhflaaLcsSpec
import Derived.Test.YtdbbolnmcbhflaaEdImpl
import Derived.Test.YtdbbolnmcbhflaaEdSpec
import Derived.Handy
namespace Go.Proofs.Ytdbbolnmcbhflaa
set_option linter.unusedVariables false
open Go.RowKit

theorem twoE_size2 (a b : ByteArray) (h : twoE a b = true) : a.size ≤ 16 ∧ b.size ≤ 16 := by
  unfold twoE at h
  simp only [Bool.and_eq_true] at h
  exact ⟨(word_size a h.1).2, (word_size b h.2).2⟩
theorem twoE_flip (a b : ByteArray) (h : twoE a b = true) : twoE b a = true := by
  unfold twoE at *
  simp only [Bool.and_eq_true] at *
  exact ⟨h.2, h.1⟩
theorem cBig (A : Option Addr) (len cap : Nat) (w : World) (h : len ≤ maxLen) :
    Calls Try.prog 5 #[.slice A len cap] w fun e w' => e = .returned (.bool (decide (4096 < len))) ∧ w = w' := by
  unfold maxLen at h
  by_cases h1 : 4096 < len
  · have hd : decide ((4096 : Int) < (len : Int)) = true := decide_eq_true (by omega)
    have HD := Lib.hid (decide_eq_true h1)
    clear h1
    go_enter Try.func5, Try.ntmps5
    go_wp2
    go_ret
    exact ⟨ret_bool HD.out.symm, rfl⟩
  · have hd : decide ((4096 : Int) < (len : Int)) = false := decide_eq_false (by omega)
    have HD := Lib.hid (decide_eq_false h1)
    clear h1
    go_enter Try.func5, Try.ntmps5
    go_wp2
    go_ret
    exact ⟨ret_bool HD.out.symm, rfl⟩
theorem cDrawEd (A : Option Addr) (len cap : Nat) (w : World) (hlen : len ≤ 1048576) (h : CodeIn w A len) :
    Calls Try.prog 6 #[.slice A len cap] w (TwoPost 256 w) := by
  have C := Lib.hid (cDrawTwo A len cap w hlen h)
  clear h
  go_enter Try.func6, Try.ntmps6
  go_wp2_with fail
  refine C.out.mono ?_
  rintro e w1 ⟨a, b, ha, hb, rfl, hw⟩
  go_wp2_with fail
  go_ret2
  exact ⟨a, b, ha, hb, rfl, hw⟩

theorem below_w {B : Nat} {w w1 w2 : World} (h : Below B w w1) (e : w1 = w2) : Below B w w2 := e ▸ h
theorem below_n {B : Nat} {w w1 w2 : World} (h : Below B w w1) (e : ∃ n, w2 = w1.drewN n) : Below B w w2 := by
  obtain ⟨n, rfl⟩ := e
  exact ⟨h.os, h.tape, h.output, h.size, h.block⟩

set_option maxHeartbeats 2000000 in
set_option maxRecDepth 100000 in
theorem wDist (A : Option Addr) (len cap : Nat) (w : World) (hl : len ≤ maxLen) (h : CodeIn w A len) :
    Calls Try.prog 3 #[.slice A len cap] w fun e w' => e = .returned (.bool true) ∧ Below w.heap.size w w' := by
  have CB := Lib.hid (cBig A len cap w hl)
  by_cases h1 : 4096 < len
  · rw [decide_eq_true h1] at CB
    clear h h1 hl
    go_enter Try.func3, Try.ntmps3
    go_wp2_with fail
    refine CB.out.mono ?_
    rintro e w' ⟨rfl, rfl⟩
    go_wp2_with fail
    go_ret
    exact ⟨rfl, Below.refl _ _⟩
  rw [decide_eq_false h1] at CB
  have CD := Lib.hid (cDrawEd A len cap w (by omega) h)
  clear h h1 hl
  go_enter Try.func3, Try.ntmps3
  go_wp2_with fail
  refine CB.out.mono ?_
  rintro e w' ⟨rfl, rfl⟩
  go_wp2_with fail
  refine CD.out.mono ?_
  rintro e w1 ⟨a, b, ha, hb, rfl, hb1⟩
  have ham : a.size ≤ maxLen := by unfold maxLen; omega
  have hbm : b.size ≤ maxLen := by unfold maxLen; omega
  cases ht : twoE a b
  · have CE1 := Lib.hid (fun W => cEd_impl_no a b W ham hbm ht)
    have CE2 := Lib.hid (fun W => cEd_spec_no a b W ham hbm ht)
    have CL1 := Lib.hid (fun W => cLcs_impl_no a b W ham hbm ht)
    have CL2 := Lib.hid (fun W => cLcs_spec_no a b W ham hbm ht)
    have CS1 := Lib.hid (fun W => bCommonStart_impl_no a b W ham hbm ht)
    have CS2 := Lib.hid (fun W => cCommonStart_spec_no a b W ham hbm ht)
    clear ht ham hbm
    go_wp2_with fail
    refine (CE1.out _).mono ?_
    rintro e w2 ⟨rfl, hg⟩
    have hb2 := hb1.trans (hg.mono hb1.size)
    go_wp2_with fail
    refine (CE2.out _).mono ?_
    rintro e w' ⟨rfl, rfl⟩
    go_wp2_with fail
    refine (CL1.out _).mono ?_
    rintro e w3 ⟨rfl, hg⟩
    have hb3 := hb2.trans (hg.mono hb2.size)
    go_wp2_with fail
    refine (CL2.out _).mono ?_
    rintro e w' ⟨rfl, rfl⟩
    go_wp2_with fail
    refine (CS1.out _).mono ?_
    rintro e w4 ⟨rfl, hg⟩
    have hb4 := hb3.trans (hg.mono hb3.size)
    go_wp2_with fail
    refine (CS2.out _).mono ?_
    rintro e w' ⟨rfl, rfl⟩
    go_wp2_with fail
    go_ret
    exact ⟨rfl, hb4⟩
  · obtain ⟨ha16, hb16⟩ := twoE_size2 a b ht
    have CE1 := Lib.hid (fun W => cEd_impl_yes a b W ham hbm ha16 hb16 ht)
    have CE2 := Lib.hid (fun W => cEd_spec_yes a b W ham hbm ha16 hb16 ht)
    have CL1 := Lib.hid (fun W => cLcs_impl_yes a b W ham hbm ha16 hb16 ht)
    have CL2 := Lib.hid (fun W => cLcs_spec_yes a b W ham hbm ha16 hb16 ht)
    have CS1 := Lib.hid (fun W => bCommonStart_impl_yes a b W ham hbm ht)
    have CS2 := Lib.hid (fun W => cCommonStart_spec_yes a b W ham hbm ht)
    have CB1 := Lib.hid (fun W => cEd_impl_yes b a W hbm ham hb16 ha16 (twoE_flip a b ht))
    rw [dis_sym a b] at CB1
    have hse : (a.extract 0 (startB a b)).size ≤ startB a b := by rw [ByteArray.size_extract]; omega
    obtain ⟨f1, f2, f3, f4, f5, f6, f7, f8, f9, f10, f11⟩ := dist_facts a b
    have HZ := Lib.hid (dis_zero a b)
    generalize dis a b a.size b.size = d at *
    generalize lcs a b a.size b.size = n at *
    generalize startB a b = st at *
    generalize a.extract 0 st = s at *
    obtain ⟨L, hL⟩ : ∃ L : Nat, L = max a.size b.size := ⟨_, rfl⟩
    obtain ⟨S, hS⟩ : ∃ S : Nat, S = min a.size b.size := ⟨_, rfl⟩
    have m1 : ∀ W, (Builtin.max_ #[3, 3] 3 #[.int .i64 a.size, .int .i64 b.size]).run Try.prog W = .ok (.int .i64 (L : Int)) W := fun W => by
      rw [run_max_int2]
      refine congrArg (fun x => Result.ok (Value.int .i64 x) W) ?_
      split <;> omega
    have m2 : ∀ W, (Builtin.min_ #[3, 3] 3 #[.int .i64 a.size, .int .i64 b.size]).run Try.prog W = .ok (.int .i64 (S : Int)) W := fun W => by
      rw [run_min_int2]
      refine congrArg (fun x => Result.ok (Value.int .i64 x) W) ?_
      split <;> omega
    have s1 : IntKind.i64.wrap ((L : Int) - (S : Int)) = (L : Int) - (S : Int) := IntWalk.i64_in _ (by omega)
    have s2 : IntKind.i64.wrap ((L : Int) - n) = (L : Int) - n := IntWalk.i64_in _ (by omega)
    have s3 : IntKind.i64.wrap ((a.size : Int) + (b.size : Int)) = (a.size : Int) + (b.size : Int) := IntWalk.i64_in _ (by omega)
    have s4 : IntKind.i64.wrap (2 * n) = 2 * n := IntWalk.i64_in _ (by omega)
    have s5 : IntKind.i64.wrap ((a.size : Int) + (b.size : Int) - 2 * n) = (a.size : Int) + (b.size : Int) - 2 * n := IntWalk.i64_in _ (by omega)
    have z1 : decide ((L : Int) - (S : Int) ≤ d) = true := decide_eq_true (by omega)
    have z2 : decide (d ≤ (L : Int)) = true := decide_eq_true (by omega)
    have z3 : decide (n ≤ (S : Int)) = true := decide_eq_true (by omega)
    have z4 : decide ((L : Int) - n ≤ d) = true := decide_eq_true (by omega)
    have z5 : decide (d ≤ (a.size : Int) + (b.size : Int) - 2 * n) = true := decide_eq_true (by omega)
    have z6 : decide ((s.size : Int) ≤ n) = true := decide_eq_true (by omega)
    have hs16 : s.size ≤ 16 := by omega
    have y1 : (d == 0) = (a.toList == b.toList) := by
      by_cases hab : a = b
      · rw [HZ.out.2 hab, hab, beq_self_eq_true, beq_self_eq_true]
      · have h1 : (d == 0) = false := by rw [beq_eq_false_iff_ne]; exact fun e => hab (HZ.out.1 e)
        have h2 : (a.toList == b.toList) = false := by
          rw [beq_eq_false_iff_ne, ByteArray.toList_eq, ByteArray.toList_eq]
          exact fun e => hab (ByteArray.ext (Array.toList_inj.1 e))
        rw [h1, h2]
    have Y1 := Lib.hid y1
    clear y1
    clear ht ham hbm f1 f2 f3 f4 f5 f6 f7 f8 f9 hse hL hS
    go_wp2_with fail
    refine (CE1.out _).mono ?_
    rintro e w2 ⟨rfl, hg⟩
    have hb2 := hb1.trans (hg.mono hb1.size)
    go_wp2_with fail
    refine (CE2.out _).mono ?_
    rintro e w' ⟨rfl, hw⟩
    have hb2' := hb2.trans (hw.mono hb2.size)
    go_wp2_with fail
    refine (CL1.out _).mono ?_
    rintro e w3 ⟨rfl, hg⟩
    have hb3 := hb2'.trans (hg.mono hb2'.size)
    go_wp2_with fail
    refine (CL2.out _).mono ?_
    rintro e w3' ⟨rfl, hw⟩
    have hb3' := hb3.trans (hw.mono hb3.size)
    go_wp2_with fail
    refine (CS1.out _).mono ?_
    rintro e w4 ⟨rfl, hg⟩
    have hb4 := hb3'.trans (hg.mono hb3'.size)
    go_wp2_with fail
    refine (CS2.out _).mono ?_
    rintro e w5 ⟨rfl, hw⟩
    have hb5 := below_n hb4 hw
    go_wp2_with fail
    refine (CB1.out _).mono ?_
    rintro e w6 ⟨rfl, hg⟩
    have hb6 := hb5.trans (hg.mono hb5.size)
    go_wp2_with fail
    all_goals first
      | exact absurd Y1.out (by assumption)
      | (go_ret; exact ⟨rfl, hb6⟩)
end Go.Proofs.Ytdbbolnmcbhflaa
