/-
  The contracts of leastStatus, findBest and impl.BestIn.
-/
import Derived.Test.YtglmibmjbignbaaGreatDoorMz20
namespace Go.Proofs.YtglmibmjbignbaaGreatDoor
set_option linter.unusedVariables false
open Go.RowKit

theorem beC_bad {xs : List Nm} {ls : List ByteArray} {y : Int} (h : qC xs ls y ≠ 0) : beC xs ls y = qC xs ls y := by unfold beC; rw [if_neg h]
theorem beC_hit {xs : List Nm} {ls : List ByteArray} {y : Int} {k : Nat} (h : qC xs ls y = 0) (hk : bestF xs y ls = some k) : beC xs ls y = 0 := by unfold beC; rw [if_pos h, hk]
theorem beC_miss {xs : List Nm} {ls : List ByteArray} {y : Int} (h : qC xs ls y = 0) (hk : bestF xs y ls = none) : beC xs ls y = 4 := by unfold beC; rw [if_pos h, hk]
theorem beZ_bad {xs : List Nm} {ls : List ByteArray} {y : Int} (h : qC xs ls y ≠ 0) : beZ xs ls y = 0 := by unfold beZ; rw [if_neg h]
theorem beZ_hit {xs : List Nm} {ls : List ByteArray} {y : Int} {k : Nat} (h : qC xs ls y = 0) (hk : bestF xs y ls = some k) : beZ xs ls y = (k : Int) := by unfold beZ; rw [if_pos h, hk]
theorem beZ_miss {xs : List Nm} {ls : List ByteArray} {y : Int} (h : qC xs ls y = 0) (hk : bestF xs y ls = none) : beZ xs ls y = 0 := by unfold beZ; rw [if_pos h, hk]
def LsI (xs : List Nm) (l : ByteArray) (y : Int) (k b : Nat) (f : Bool) : Prop := (f = false ∧ b = 0 ∧ lsF xs l y k = none) ∨ (f = true ∧ lsF xs l y k = some b)
def leastV (o : Option Nat) : Value := match o with | some b => .tuple #[.int .i64 (b : Int), .bool true] | none => .tuple #[.int .i64 0, .bool false]

set_option maxHeartbeats 4000000 in
set_option maxRecDepth 100000 in
theorem cLeast9 (A : Option Addr) (n c : Nat) (xs : List Nm) (l : ByteArray) (y : Int) (w : World) (hb : n ≤ 1048576) (h : NmAt w w.heap.size A n xs) :
    Calls Tryz.prog 203 #[.slice A n c, .string l, .int .i64 y] w fun e w' => e = .returned (leastV (lsF xs l y xs.length)) ∧ Below w.heap.size w w' := by
  have H := Lib.hid h
  have HN := Lib.hid h.1
  have CU := Lib.hid (fun x W => cUsed1 x y W)
  clear h
  go_enter Tryz.func203, Tryz.ntmps203
  go_wp2_with fail
  go_loopw [8, 9, 14] (fun p q i wr => ∃ (k b : Nat) (f : Bool), k ≤ n ∧ i = .int .i64 k ∧ p = .int .i64 b ∧ q = .bool f ∧ Hid (LsI xs l y k b f) ∧ Below w.heap.size w wr) (fun _ _ i _ => n - (intOf i).toNat)
  case atStart => exact ⟨0, 0, false, Nat.zero_le _, rfl, rfl, rfl, Lib.hid (.inl ⟨rfl, rfl, rfl⟩), Below.refl _ _⟩
  case round =>
    obtain ⟨k, b, f, hk, rfl, rfl, rfl, HL, hbw⟩ := hrel
    by_cases hlt : k < n
    · obtain ⟨x, hx⟩ : ∃ x, xs[k]? = some x := ⟨xs[k]'(by have := HN.out; omega), List.getElem?_eq_getElem _⟩
      obtain ⟨bk, o, rfl, hbl, c0, c1, c2, c3, c4⟩ := (H.out.below hbw (Nat.le_refl _)).row hx
      have hb1 := hbw.alloc hbw.size (.cells #[.string x.t, .string x.l, .int .i64 x.s, .int .i64 x.f, .int .i64 x.u] 100)
      have HB := Lib.hid hb1
      have HX := Lib.hid hx
      have CX := Lib.hid (fun W => CU.out x W)
      obtain ⟨W0, hW0⟩ : ∃ W0 : World, W0 = wr.alloc (.cells #[.string x.t, .string x.l, .int .i64 x.s, .int .i64 x.f, .int .i64 x.u] 100) := ⟨_, rfl⟩
      have K1 : NmCell W0 wr.heap.size 0 x := by rw [hW0]; exact nm_new wr x _
      have l1 : wr.heap.size < W0.heap.size := by rw [hW0]; simp
      have HW := Lib.hid hW0
      have HK1 := Lib.hid K1
      have u1 : (0 : Int) ≤ (k : Int) := Int.natCast_nonneg _
      have u2 : (k : Int) < (n : Int) := by omega
      have HZ : Hid (f = true → ∃ z, xs[b]? = some z ∧ (b : Int) < (n : Int) ∧ ∀ W, Below W0.heap.size W0 W → W.cell? ⟨bk, o + b * 5 + 2, none⟩ = some (.int .i64 z.s)) := Lib.hid (fun hf => by
        rcases HL.out with ⟨h1, _⟩ | ⟨_, h2⟩
        · rw [hf] at h1; cases h1
        obtain ⟨_, z, hz, _⟩ := ls_lt xs l y k b h2
        have hbn : b < xs.length := (List.getElem?_eq_some_iff.1 hz).1
        refine ⟨z, hz, by have := HN.out; omega, fun W hW => ?_⟩
        have hc := (H.out.below ((bstep9 HB.out HB.out.size (by rw [← HW.out]; exact hW))) (Nat.le_refl _)).row hz
        obtain ⟨b2, o2, hA, _, _, _, d2, _, _⟩ := hc
        obtain ⟨rfl, rfl⟩ : bk = b2 ∧ o = o2 := by injection hA with hA; injection hA with e1 e2; exact ⟨e1, e2⟩
        exact d2)
      clear hx hb1 hW0 K1
      have KC : Hid (∀ W, Below W0.heap.size W0 W → W.cell? ⟨wr.heap.size, 0, none⟩ = some (.string x.t) ∧ W.cell? ⟨wr.heap.size, 1, none⟩ = some (.string x.l) ∧ W.cell? ⟨wr.heap.size, 2, none⟩ = some (.int .i64 x.s) ∧ W.cell? ⟨wr.heap.size, 3, none⟩ = some (.int .i64 x.f) ∧ W.cell? ⟨wr.heap.size, 4, none⟩ = some (.int .i64 x.u)) := Lib.hid (fun W hW => HK1.out.below hW l1)
      have HBW : Hid (Below w.heap.size w W0) := Lib.hid (by rw [HW.out]; exact HB.out)
      clear HK1
      have CLS : ∀ {T : Type} {f : T → World} (hf : ∀ t, Below W0.heap.size W0 (f t)), True := fun _ => trivial
      clear CLS
      by_cases s1 : x.l = l
      · have z1 : (x.l.toList == l.toList) = true := by rw [toList_beq]; exact decide_eq_true s1
        cases hu : usB x y
        · rw [hu] at CX
          have HL2 : Hid (LsI xs l y (k + 1) b f) := Lib.hid (by unfold LsI; rw [ls_skip HX.out (by rw [hu, Bool.and_false])]; exact HL.out)
          clear hu s1
          go_wp2_with fail
          rw [← HW.out]
          obtain ⟨T, g, t0, hT, ht0, hf, hback⟩ := class_of W0
          have j0 : ∀ t, (g t).cell? ⟨wr.heap.size, 0, none⟩ = some (.string x.t) := fun t => (KC.out _ (hf t)).1
          have j1 : ∀ t, (g t).cell? ⟨wr.heap.size, 1, none⟩ = some (.string x.l) := fun t => (KC.out _ (hf t)).2.1
          have j2 : ∀ t, (g t).cell? ⟨wr.heap.size, 2, none⟩ = some (.int .i64 x.s) := fun t => (KC.out _ (hf t)).2.2.1
          have j3 : ∀ t, (g t).cell? ⟨wr.heap.size, 3, none⟩ = some (.int .i64 x.f) := fun t => (KC.out _ (hf t)).2.2.2.1
          have j4 : ∀ t, (g t).cell? ⟨wr.heap.size, 4, none⟩ = some (.int .i64 x.u) := fun t => (KC.out _ (hf t)).2.2.2.2
          have HF := Lib.hid hf
          have HK := Lib.hid hback
          clear hf hback c0 c1 c2 c3 c4 HW
          refine wp_region_class g t0 ht0 (by kernel_rfl) (by kernel_rfl) ?_
          clear ht0
          repeat (go_big_quiet_step (first | (go_at_call 128; exact Calls.class_of HF.out HK.out (CX.out _))))
          refine wpQuiet_nil ?_
          rintro w' ⟨t, rfl⟩
          have hbt := bstep9 HBW.out HBW.out.size (HF.out t)
          go_wp2_with fail
          go_roundw
          case rel => exact ⟨k + 1, b, f, by omega, by go_num, rfl, rfl, HL2, hbt⟩
          case measure => simp [intOf]; omega
        · rw [hu] at CX
          have hcc : (decide (x.l = l) && usB x y) = true := by rw [hu, decide_eq_true s1]; rfl
          rcases hL : HL.out with ⟨rfl, rfl, hn⟩ | ⟨rfl, hs⟩
          · have HL2 : Hid (LsI xs l y (k + 1) k true) := Lib.hid (.inr ⟨rfl, ls_first HX.out hcc hn⟩)
            clear hu s1 hcc hn HL hL HZ
            go_wp2_with fail
            rw [← HW.out]
            obtain ⟨T, g, t0, hT, ht0, hf, hback⟩ := class_of W0
            have j0 : ∀ t, (g t).cell? ⟨wr.heap.size, 0, none⟩ = some (.string x.t) := fun t => (KC.out _ (hf t)).1
            have j1 : ∀ t, (g t).cell? ⟨wr.heap.size, 1, none⟩ = some (.string x.l) := fun t => (KC.out _ (hf t)).2.1
            have j2 : ∀ t, (g t).cell? ⟨wr.heap.size, 2, none⟩ = some (.int .i64 x.s) := fun t => (KC.out _ (hf t)).2.2.1
            have j3 : ∀ t, (g t).cell? ⟨wr.heap.size, 3, none⟩ = some (.int .i64 x.f) := fun t => (KC.out _ (hf t)).2.2.2.1
            have j4 : ∀ t, (g t).cell? ⟨wr.heap.size, 4, none⟩ = some (.int .i64 x.u) := fun t => (KC.out _ (hf t)).2.2.2.2
            have HF := Lib.hid hf
            have HK := Lib.hid hback
            clear hf hback c0 c1 c2 c3 c4 HW
            refine wp_region_class g t0 ht0 (by kernel_rfl) (by kernel_rfl) ?_
            clear ht0
            repeat (go_big_quiet_step (first | (go_at_call 128; exact Calls.class_of HF.out HK.out (CX.out _))))
            refine wpQuiet_nil ?_
            rintro w' ⟨t, rfl⟩
            have hbt := bstep9 HBW.out HBW.out.size (HF.out t)
            go_wp2_with fail
            go_roundw
            case rel => exact ⟨k + 1, k, true, by omega, by go_num, rfl, rfl, HL2, hbt⟩
            case measure => simp [intOf]; omega
          · obtain ⟨z, hz, u3, hzc⟩ := HZ.out rfl
            have u4 : (0 : Int) ≤ (b : Int) := Int.natCast_nonneg _
            have HZC := Lib.hid hzc
            by_cases hless : x.s < z.s
            · have dd : decide (x.s < z.s) = true := decide_eq_true hless
              have HL2 : Hid (LsI xs l y (k + 1) k true) := Lib.hid (.inr ⟨rfl, ls_better HX.out hcc hs hz hless⟩)
              clear hu s1 hcc hs HL hL HZ hz hzc hless
              go_wp2_with fail
              rw [← HW.out]
              obtain ⟨T, g, t0, hT, ht0, hf, hback⟩ := class_of W0
              have j0 : ∀ t, (g t).cell? ⟨wr.heap.size, 0, none⟩ = some (.string x.t) := fun t => (KC.out _ (hf t)).1
              have j1 : ∀ t, (g t).cell? ⟨wr.heap.size, 1, none⟩ = some (.string x.l) := fun t => (KC.out _ (hf t)).2.1
              have j2 : ∀ t, (g t).cell? ⟨wr.heap.size, 2, none⟩ = some (.int .i64 x.s) := fun t => (KC.out _ (hf t)).2.2.1
              have j3 : ∀ t, (g t).cell? ⟨wr.heap.size, 3, none⟩ = some (.int .i64 x.f) := fun t => (KC.out _ (hf t)).2.2.2.1
              have j4 : ∀ t, (g t).cell? ⟨wr.heap.size, 4, none⟩ = some (.int .i64 x.u) := fun t => (KC.out _ (hf t)).2.2.2.2
              have j5 : ∀ t, (g t).cell? ⟨bk, o + b * 5 + 2, none⟩ = some (.int .i64 z.s) := fun t => HZC.out _ (hf t)
              have HF := Lib.hid hf
              have HK := Lib.hid hback
              clear hf hback c0 c1 c2 c3 c4 HW
              refine wp_region_class g t0 ht0 (by kernel_rfl) (by kernel_rfl) ?_
              clear ht0
              repeat (go_big_quiet_step (first | (go_at_call 128; exact Calls.class_of HF.out HK.out (CX.out _))))
              refine wpQuiet_nil ?_
              rintro w' ⟨t, rfl⟩
              have hbt := bstep9 HBW.out HBW.out.size (HF.out t)
              go_wp2_with fail
              go_roundw
              case rel => exact ⟨k + 1, k, true, by omega, by go_num, rfl, rfl, HL2, hbt⟩
              case measure => simp [intOf]; omega
            · have dd : decide (x.s < z.s) = false := decide_eq_false hless
              have HL2 : Hid (LsI xs l y (k + 1) b true) := Lib.hid (.inr ⟨rfl, ls_worse HX.out hcc hs hz hless⟩)
              clear hu s1 hcc hs HL hL HZ hz hzc hless
              go_wp2_with fail
              rw [← HW.out]
              obtain ⟨T, g, t0, hT, ht0, hf, hback⟩ := class_of W0
              have j0 : ∀ t, (g t).cell? ⟨wr.heap.size, 0, none⟩ = some (.string x.t) := fun t => (KC.out _ (hf t)).1
              have j1 : ∀ t, (g t).cell? ⟨wr.heap.size, 1, none⟩ = some (.string x.l) := fun t => (KC.out _ (hf t)).2.1
              have j2 : ∀ t, (g t).cell? ⟨wr.heap.size, 2, none⟩ = some (.int .i64 x.s) := fun t => (KC.out _ (hf t)).2.2.1
              have j3 : ∀ t, (g t).cell? ⟨wr.heap.size, 3, none⟩ = some (.int .i64 x.f) := fun t => (KC.out _ (hf t)).2.2.2.1
              have j4 : ∀ t, (g t).cell? ⟨wr.heap.size, 4, none⟩ = some (.int .i64 x.u) := fun t => (KC.out _ (hf t)).2.2.2.2
              have j5 : ∀ t, (g t).cell? ⟨bk, o + b * 5 + 2, none⟩ = some (.int .i64 z.s) := fun t => HZC.out _ (hf t)
              have HF := Lib.hid hf
              have HK := Lib.hid hback
              clear hf hback c0 c1 c2 c3 c4 HW
              refine wp_region_class g t0 ht0 (by kernel_rfl) (by kernel_rfl) ?_
              clear ht0
              repeat (go_big_quiet_step (first | (go_at_call 128; exact Calls.class_of HF.out HK.out (CX.out _))))
              refine wpQuiet_nil ?_
              rintro w' ⟨t, rfl⟩
              have hbt := bstep9 HBW.out HBW.out.size (HF.out t)
              go_wp2_with fail
              go_roundw
              case rel => exact ⟨k + 1, b, true, by omega, by go_num, rfl, rfl, HL2, hbt⟩
              case measure => simp [intOf]; omega
      · have z1 : (x.l.toList == l.toList) = false := by rw [toList_beq]; exact decide_eq_false s1
        have HL2 : Hid (LsI xs l y (k + 1) b f) := Lib.hid (by unfold LsI; rw [ls_skip HX.out (by rw [decide_eq_false s1]; rfl)]; exact HL.out)
        clear s1
        go_wp2_with fail
        rw [← HW.out]
        obtain ⟨T, g, t0, hT, ht0, hf, hback⟩ := class_of W0
        have j0 : ∀ t, (g t).cell? ⟨wr.heap.size, 0, none⟩ = some (.string x.t) := fun t => (KC.out _ (hf t)).1
        have j1 : ∀ t, (g t).cell? ⟨wr.heap.size, 1, none⟩ = some (.string x.l) := fun t => (KC.out _ (hf t)).2.1
        have HF := Lib.hid hf
        have HK := Lib.hid hback
        clear hf hback c0 c1 c2 c3 c4 HW
        refine wp_region_class g t0 ht0 (by kernel_rfl) (by kernel_rfl) ?_
        clear ht0
        repeat (go_big_quiet_step (fail))
        refine wpQuiet_nil ?_
        rintro w' ⟨t, rfl⟩
        have hbt := bstep9 HBW.out HBW.out.size (HF.out t)
        go_wp2_with fail
        go_roundw
        case rel => exact ⟨k + 1, b, f, by omega, by go_num, rfl, rfl, HL2, hbt⟩
        case measure => simp [intOf]; omega
    · have hkn : k = xs.length := by have := HN.out; omega
      have HL2 : Hid (leastV (lsF xs l y xs.length) = .tuple #[.int .i64 (b : Int), .bool f]) := Lib.hid (by
        rw [← hkn]
        rcases HL.out with ⟨rfl, rfl, hn⟩ | ⟨rfl, hs⟩
        · rw [hn]; rfl
        · rw [hs]; rfl)
      clear hkn
      go_wp2_with fail
      go_ret2
      exact ⟨by rw [HL2.out]; rfl, hbw⟩
end Go.Proofs.YtglmibmjbignbaaGreatDoor
