/-
  The contracts of isOfficial, isUsedIn and excludes, of slices.IndexFunc and ContainsFunc at the latter.
-/
import Derived.Test.YtkbkgbhnfopgnaaDoorNmMath
import Derived.Test.YtkbkgbhnfopgnaaDoorChk9
import Derived.Test.YtkbkgbhnfopgnaaDoorMq9
import Derived.Test.YtkbkgbhnfopgnaaDoorHas
namespace Go.Proofs.YtkbkgbhnfopgnaaDoor
set_option linter.unusedVariables false
open Go.RowKit

theorem cOffi (x : Nm) (l : ByteArray) (w : World) :
    Calls Tryd.prog 101 #[nmA x, .string l] w fun e w' => e = .returned (.bool (ofB l x)) ∧ Below w.heap.size w w' := by
  have hb0 := (Below.refl w.heap.size w).alloc (Nat.le_refl _) (.cells #[.string x.t, .string x.l, .int .i64 x.s, .int .i64 x.f, .int .i64 x.u] 65)
  have HX : Hid (ofB l x = (decide (x.s = 0) && decide (x.l = l))) := Lib.hid rfl
  by_cases hs : x.s = 0
  · have h0 : (x.s == 0) = true := by simp [hs]
    have h1 : (x.l.toList == l.toList) = decide (x.l = l) := toList_beq _ _
    have HS := Lib.hid hs
    clear hs
    go_enter Tryd.func101, Tryd.ntmps101
    go_wp2
    go_ret
    exact ⟨ret_bool (by rw [HX.out, decide_eq_true HS.out, Bool.true_and]), hb0⟩
  · have h0 : (x.s == 0) = false := by simp [hs]
    have HS := Lib.hid hs
    clear hs
    go_enter Tryd.func101, Tryd.ntmps101
    go_wp2
    go_ret
    exact ⟨ret_bool (by rw [HX.out, decide_eq_false HS.out, Bool.false_and]), hb0⟩
theorem cl_eq {x y : Nm} (hx : x.s = 0) : clB x y = (ofB x.l y && meetB x.f x.u y.f y.u) := by
  unfold clB ofB
  rw [decide_eq_true hx, Bool.true_and]
  congr 2
  rw [decide_eq_decide]
  exact eq_comm
theorem cl_no {x y : Nm} (hx : ¬ x.s = 0) : clB x y = false := by unfold clB; rw [decide_eq_false hx]; rfl

set_option maxHeartbeats 1000000 in
theorem cExcl (x y : Nm) (w : World) (h1 : spB x.f x.u = true) (h2 : spB y.f y.u = true) :
    Calls Tryd.prog 97 #[nmA x, nmA y] w fun e w' => e = .returned (.bool (clB x y)) ∧ Below w.heap.size w w' := by
  have CO := Lib.hid (fun W => cOffi y x.l W)
  have CM := Lib.hid (fun W => cMeet x.f x.u y.f y.u W)
  have CV := Lib.hid (fun W => cValid (max x.f y.f) (min x.u y.u) W)
  rw [meet_valid h1 h2] at CV
  obtain ⟨W0, hW0⟩ : ∃ W0 : World, W0 = (w.alloc (.cells #[.string x.t, .string x.l, .int .i64 x.s, .int .i64 x.f, .int .i64 x.u] 65)).alloc (.cells #[.string y.t, .string y.l, .int .i64 y.s, .int .i64 y.f, .int .i64 y.u] 65) := ⟨_, rfl⟩
  have B0 : Below w.heap.size w W0 := by rw [hW0]; exact ((Below.refl _ _).alloc (Nat.le_refl _) _).alloc (by simp) _
  have K1 : NmCell W0 w.heap.size 0 x := by rw [hW0]; exact (nm_new w x _).below ((Below.refl (w.heap.size + 1) _).alloc (by simp) _) (by simp)
  have K2 : NmCell W0 (w.heap.size + 1) 0 y := by rw [hW0]; have h := nm_new (w.alloc (.cells #[.string x.t, .string x.l, .int .i64 x.s, .int .i64 x.f, .int .i64 x.u] 65)) y 65; simpa using h
  have l1 : w.heap.size < W0.heap.size := by rw [hW0]; simp; omega
  have l2 : w.heap.size + 1 < W0.heap.size := by rw [hW0]; simp
  have HW := Lib.hid hW0
  have HK1 := Lib.hid K1
  have HK2 := Lib.hid K2
  clear hW0 K1 K2 h1 h2
  by_cases hs : x.s = 0
  · have HX := Lib.hid (cl_eq (y := y) hs)
    have h0 : (x.s == 0) = true := by simp [hs]
    clear hs
    obtain ⟨b, hb⟩ : ∃ b, b = ofB x.l y := ⟨_, rfl⟩
    rw [← hb] at CO HX
    clear hb
    have KC : Hid (∀ W, Below W0.heap.size W0 W → W.cell? ⟨w.heap.size, 1, none⟩ = some (.string x.l) ∧ W.cell? ⟨w.heap.size, 2, none⟩ = some (.int .i64 x.s) ∧ W.cell? ⟨w.heap.size, 3, none⟩ = some (.int .i64 x.f) ∧ W.cell? ⟨w.heap.size, 4, none⟩ = some (.int .i64 x.u) ∧ W.cell? ⟨w.heap.size + 1, 0, none⟩ = some (.string y.t) ∧ W.cell? ⟨w.heap.size + 1, 1, none⟩ = some (.string y.l) ∧ W.cell? ⟨w.heap.size + 1, 2, none⟩ = some (.int .i64 y.s) ∧ W.cell? ⟨w.heap.size + 1, 3, none⟩ = some (.int .i64 y.f) ∧ W.cell? ⟨w.heap.size + 1, 4, none⟩ = some (.int .i64 y.u)) := Lib.hid (fun W hW => by
      have a := HK1.out.below hW l1
      have b := HK2.out.below hW l2
      exact ⟨a.2.1, a.2.2.1, a.2.2.2.1, a.2.2.2.2, b.1, b.2.1, b.2.2.1, b.2.2.2.1, b.2.2.2.2⟩)
    obtain ⟨k1, k2, k3, k4, j0, j1, j2, j3, j4⟩ := KC.out W0 (Below.refl _ _)
    clear HK1 HK2
    go_enter Tryd.func97, Tryd.ntmps97
    go_wp2_with fail
    rw [← HW.out]
    clear HW
    refine (CO.out _).mono ?_
    rintro e w1 ⟨rfl, g1⟩
    clear k1 k2 k3 k4 j0 j1 j2 j3 j4
    have hbt := bstep9 B0 B0.size g1
    cases b
    · clear g1 KC
      go_wp2_with fail
      go_ret
      exact ⟨ret_bool (by rw [HX.out]; rfl), hbt⟩
    · obtain ⟨k1, k2, k3, k4, j0, j1, j2, j3, j4⟩ := KC.out w1 g1
      go_wp2_with fail
      refine (CM.out _).mono ?_
      rintro e w2 ⟨rfl, g2⟩
      have hbt2 := bstep9 hbt hbt.size g2
      clear k1 k2 k3 k4 j0 j1 j2 j3 j4 g1 hbt KC g2
      go_wp2_with fail
      refine (CV.out _).mono ?_
      rintro e w3 ⟨rfl, g3⟩
      have hbt3 := bstep9 hbt2 hbt2.size g3
      clear g3 hbt2
      go_wp2_with fail
      go_ret
      exact ⟨ret_bool (by rw [HX.out]; rfl), hbt3⟩
  · have HX := Lib.hid (cl_no (y := y) hs)
    have h0 : (x.s == 0) = false := by simp [hs]
    have c2 : W0.cell? ⟨w.heap.size, 2, none⟩ = some (.int .i64 x.s) := HK1.out.2.2.1
    clear hs HK1 HK2
    go_enter Tryd.func97, Tryd.ntmps97
    go_wp2_with fail
    all_goals
      go_ret
      exact ⟨ret_bool HX.out.symm, by have := HW.out; rw [← this]; exact B0⟩
end Go.Proofs.YtkbkgbhnfopgnaaDoor
