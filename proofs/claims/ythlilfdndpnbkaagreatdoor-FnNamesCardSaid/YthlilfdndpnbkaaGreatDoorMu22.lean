/-
  The laws' helpers markNameS and heldNameS on rows of names of one's own.
-/
import Derived.Test.YthlilfdndpnbkaaGreatDoorMu21
import Derived.Test.YthlilfdndpnbkaaGreatDoorMu10
import Derived.Test.YthlilfdndpnbkaaGreatDoorOff9
namespace Go.Proofs.YthlilfdndpnbkaaGreatDoor
section
set_option linter.unusedVariables false
open Go.RowKit

def markN1 (k : Nat) : Nm := ⟨markB k, markB (k + 1), (k : Int) + 1 + 1, (k : Int) + 1 + 1 + 1, (k : Int) + 1 + 1 + 1 + 1⟩
def marksN (k n : Nat) : List Nm := (List.range n).map fun i => markN1 (k + 5 * i)
theorem marksN_len (k n : Nat) : (marksN k n).length = n := by simp [marksN]
theorem marksN_at (k n j : Nat) (h : j < n) : (marksN k n)[j]? = some (markN1 (k + 5 * j)) := by simp [marksN, h]
theorem marksN_succ (k j : Nat) : marksN k (j + 1) = marksN k j ++ [markN1 (k + 5 * j)] := by unfold marksN; rw [List.range_succ, List.map_append]; rfl
def markN (k j : Nat) (xs : List Nm) : List Nm := marksN k j ++ xs.drop j
theorem markN_len (k j : Nat) (xs : List Nm) (h : j ≤ xs.length) : (markN k j xs).length = xs.length := by unfold markN; rw [List.length_append, marksN_len, List.length_drop]; omega
theorem markN_step (k j : Nat) (xs : List Nm) (h : j < xs.length) : (markN k j xs).set j (markN1 (k + 5 * j)) = markN k (j + 1) xs := by
  unfold markN
  rw [List.set_append_right _ _ (by rw [marksN_len]; exact Nat.le_refl _), marksN_len, Nat.sub_self, List.drop_eq_getElem_cons h, List.set_cons_zero, marksN_succ, List.append_assoc]
  rfl
theorem bgrown9 {w w' : World} (h : Below w.heap.size w w') (row : Option Nat) : w.grownBy w' row := ⟨h.os, h.tape, h.output, h.size, fun k hk _ => h.block k hk⟩
def MarkedN (lo : Nat) (A : Option Addr) (n c k : Nat) (w : World) (e : Ending) (w' : World) : Prop :=
  e = .returned (.int .i64 ((k + 5 * n : Nat) : Int)) ∧ w'.ownsRow lo 27 5 (.slice A n c) n (nmV (marksN k n)) ∧ w.grownBy w' (Value.slice A n c).ownBlock
end
section
set_option linter.unusedVariables false
open Go.RowKit

end
section
set_option linter.unusedVariables false
open Go.RowKit

theorem beC_bad {xs : List Nm} {ls : List ByteArray} {y : Int} (h : qC xs ls y ≠ 0) : beC xs ls y = qC xs ls y := by unfold beC; rw [if_neg h]
theorem beC_hit {xs : List Nm} {ls : List ByteArray} {y : Int} {k : Nat} (h : qC xs ls y = 0) (hk : bestF xs y ls = some k) : beC xs ls y = 0 := by unfold beC; rw [if_pos h, hk]
theorem beC_miss {xs : List Nm} {ls : List ByteArray} {y : Int} (h : qC xs ls y = 0) (hk : bestF xs y ls = none) : beC xs ls y = 4 := by unfold beC; rw [if_pos h, hk]
theorem beZ_bad {xs : List Nm} {ls : List ByteArray} {y : Int} (h : qC xs ls y ≠ 0) : beZ xs ls y = 0 := by unfold beZ; rw [if_neg h]
theorem beZ_hit {xs : List Nm} {ls : List ByteArray} {y : Int} {k : Nat} (h : qC xs ls y = 0) (hk : bestF xs y ls = some k) : beZ xs ls y = (k : Int) := by unfold beZ; rw [if_pos h, hk]
theorem beZ_miss {xs : List Nm} {ls : List ByteArray} {y : Int} (h : qC xs ls y = 0) (hk : bestF xs y ls = none) : beZ xs ls y = 0 := by unfold beZ; rw [if_pos h, hk]
def LsI (xs : List Nm) (l : ByteArray) (y : Int) (k b : Nat) (f : Bool) : Prop := (f = false ∧ b = 0 ∧ lsF xs l y k = none) ∨ (f = true ∧ lsF xs l y k = some b)
def leastV (o : Option Nat) : Value := match o with | some b => .tuple #[.int .i64 (b : Int), .bool true] | none => .tuple #[.int .i64 0, .bool false]

set_option maxHeartbeats 4000000 in
set_option maxRecDepth 100000 in
theorem cLeast9 (A : Option Addr) (n c : Nat) (xs : List Nm) (l : ByteArray) (y : Int) (w : World) (hb : n ≤ 1048576) (h : NmAt w w.heap.size A n xs) :
    Calls Tryz.prog 108 #[.slice A n c, .string l, .int .i64 y] w fun e w' => e = .returned (leastV (lsF xs l y xs.length)) ∧ Below w.heap.size w w' := by
  have H := Lib.hid h
  have HN := Lib.hid h.1
  have CU := Lib.hid (fun x W => cUsed1 x y W)
  clear h
  go_enter Tryz.func108, Tryz.ntmps108
  go_wp2_with fail
  go_loopw [8, 9, 14] (fun p q i wr => ∃ (k b : Nat) (f : Bool), k ≤ n ∧ i = .int .i64 k ∧ p = .int .i64 b ∧ q = .bool f ∧ Hid (LsI xs l y k b f) ∧ Below w.heap.size w wr) (fun _ _ i _ => n - (intOf i).toNat)
  case atStart => exact ⟨0, 0, false, Nat.zero_le _, rfl, rfl, rfl, Lib.hid (.inl ⟨rfl, rfl, rfl⟩), Below.refl _ _⟩
  case round =>
    obtain ⟨k, b, f, hk, rfl, rfl, rfl, HL, hbw⟩ := hrel
    by_cases hlt : k < n
    · obtain ⟨x, hx⟩ : ∃ x, xs[k]? = some x := ⟨xs[k]'(by have := HN.out; omega), List.getElem?_eq_getElem _⟩
      obtain ⟨bk, o, rfl, hbl, c0, c1, c2, c3, c4⟩ := (H.out.below hbw (Nat.le_refl _)).row hx
      have hb1 := hbw.alloc hbw.size (.cells #[.string x.t, .string x.l, .int .i64 x.s, .int .i64 x.f, .int .i64 x.u] 27)
      have HB := Lib.hid hb1
      have HX := Lib.hid hx
      have CX := Lib.hid (fun W => CU.out x W)
      obtain ⟨W0, hW0⟩ : ∃ W0 : World, W0 = wr.alloc (.cells #[.string x.t, .string x.l, .int .i64 x.s, .int .i64 x.f, .int .i64 x.u] 27) := ⟨_, rfl⟩
      have K1 : NmCell W0 wr.heap.size 0 x := by rw [hW0]; exact nm_new wr x _
      have l1 : wr.heap.size < W0.heap.size := by rw [hW0]; simp
      have HW := Lib.hid hW0
      have HK1 := Lib.hid K1
      have u1 : (0 : Int) ≤ (k : Int) := Int.natCast_nonneg _
      have u2 : (k : Int) < (n : Int) := by omega
      have HZ : Hid (f = true → ∃ z, xs[b]? = some z ∧ (b : Int) < (n : Int) ∧ ∀ W, Below W0.heap.size W0 W → W.cell? ⟨bk, o + b * 5 + 2, none⟩ = some (.int .i64 z.s)) := Lib.hid (fun hf => by
        rcases HL.out with ⟨h1, _⟩ | ⟨_, h2⟩
        · rw [hf] at h1; cases h1
        obtain ⟨_, z, hz, _⟩ := ls_lt xs l y k b h2
        have hbn : b < xs.length := (List.getElem?_eq_some_iff.1 hz).1
        refine ⟨z, hz, by have := HN.out; omega, fun W hW => ?_⟩
        have hc := (H.out.below ((bstep9 HB.out HB.out.size (by rw [← HW.out]; exact hW))) (Nat.le_refl _)).row hz
        obtain ⟨b2, o2, hA, _, _, _, d2, _, _⟩ := hc
        obtain ⟨rfl, rfl⟩ : bk = b2 ∧ o = o2 := by injection hA with hA; injection hA with e1 e2; exact ⟨e1, e2⟩
        exact d2)
      clear hx hb1 hW0 K1
      have KC : Hid (∀ W, Below W0.heap.size W0 W → W.cell? ⟨wr.heap.size, 0, none⟩ = some (.string x.t) ∧ W.cell? ⟨wr.heap.size, 1, none⟩ = some (.string x.l) ∧ W.cell? ⟨wr.heap.size, 2, none⟩ = some (.int .i64 x.s) ∧ W.cell? ⟨wr.heap.size, 3, none⟩ = some (.int .i64 x.f) ∧ W.cell? ⟨wr.heap.size, 4, none⟩ = some (.int .i64 x.u)) := Lib.hid (fun W hW => HK1.out.below hW l1)
      have HBW : Hid (Below w.heap.size w W0) := Lib.hid (by rw [HW.out]; exact HB.out)
      clear HK1
      have CLS : ∀ {T : Type} {f : T → World} (hf : ∀ t, Below W0.heap.size W0 (f t)), True := fun _ => trivial
      clear CLS
      by_cases s1 : x.l = l
      · have z1 : (x.l.toList == l.toList) = true := by rw [toList_beq]; exact decide_eq_true s1
        cases hu : usB x y
        · rw [hu] at CX
          have HL2 : Hid (LsI xs l y (k + 1) b f) := Lib.hid (by unfold LsI; rw [ls_skip HX.out (by rw [hu, Bool.and_false])]; exact HL.out)
          clear hu s1
          go_wp2_with fail
          rw [← HW.out]
          obtain ⟨T, g, t0, hT, ht0, hf, hback⟩ := class_of W0
          have j0 : ∀ t, (g t).cell? ⟨wr.heap.size, 0, none⟩ = some (.string x.t) := fun t => (KC.out _ (hf t)).1
          have j1 : ∀ t, (g t).cell? ⟨wr.heap.size, 1, none⟩ = some (.string x.l) := fun t => (KC.out _ (hf t)).2.1
          have j2 : ∀ t, (g t).cell? ⟨wr.heap.size, 2, none⟩ = some (.int .i64 x.s) := fun t => (KC.out _ (hf t)).2.2.1
          have j3 : ∀ t, (g t).cell? ⟨wr.heap.size, 3, none⟩ = some (.int .i64 x.f) := fun t => (KC.out _ (hf t)).2.2.2.1
          have j4 : ∀ t, (g t).cell? ⟨wr.heap.size, 4, none⟩ = some (.int .i64 x.u) := fun t => (KC.out _ (hf t)).2.2.2.2
          have HF := Lib.hid hf
          have HK := Lib.hid hback
          clear hf hback c0 c1 c2 c3 c4 HW
          refine wp_region_class g t0 ht0 (by kernel_rfl) (by kernel_rfl) ?_
          clear ht0
          repeat (go_big_quiet_step (first | (go_at_call 65; exact Calls.class_of HF.out HK.out (CX.out _))))
          refine wpQuiet_nil ?_
          rintro w' ⟨t, rfl⟩
          have hbt := bstep9 HBW.out HBW.out.size (HF.out t)
          go_wp2_with fail
          go_roundw
          case rel => exact ⟨k + 1, b, f, by omega, by go_num, rfl, rfl, HL2, hbt⟩
          case measure => simp [intOf]; omega
        · rw [hu] at CX
          have hcc : (decide (x.l = l) && usB x y) = true := by rw [hu, decide_eq_true s1]; rfl
          rcases hL : HL.out with ⟨rfl, rfl, hn⟩ | ⟨rfl, hs⟩
          · have HL2 : Hid (LsI xs l y (k + 1) k true) := Lib.hid (.inr ⟨rfl, ls_first HX.out hcc hn⟩)
            clear hu s1 hcc hn HL hL HZ
            go_wp2_with fail
            rw [← HW.out]
            obtain ⟨T, g, t0, hT, ht0, hf, hback⟩ := class_of W0
            have j0 : ∀ t, (g t).cell? ⟨wr.heap.size, 0, none⟩ = some (.string x.t) := fun t => (KC.out _ (hf t)).1
            have j1 : ∀ t, (g t).cell? ⟨wr.heap.size, 1, none⟩ = some (.string x.l) := fun t => (KC.out _ (hf t)).2.1
            have j2 : ∀ t, (g t).cell? ⟨wr.heap.size, 2, none⟩ = some (.int .i64 x.s) := fun t => (KC.out _ (hf t)).2.2.1
            have j3 : ∀ t, (g t).cell? ⟨wr.heap.size, 3, none⟩ = some (.int .i64 x.f) := fun t => (KC.out _ (hf t)).2.2.2.1
            have j4 : ∀ t, (g t).cell? ⟨wr.heap.size, 4, none⟩ = some (.int .i64 x.u) := fun t => (KC.out _ (hf t)).2.2.2.2
            have HF := Lib.hid hf
            have HK := Lib.hid hback
            clear hf hback c0 c1 c2 c3 c4 HW
            refine wp_region_class g t0 ht0 (by kernel_rfl) (by kernel_rfl) ?_
            clear ht0
            repeat (go_big_quiet_step (first | (go_at_call 65; exact Calls.class_of HF.out HK.out (CX.out _))))
            refine wpQuiet_nil ?_
            rintro w' ⟨t, rfl⟩
            have hbt := bstep9 HBW.out HBW.out.size (HF.out t)
            go_wp2_with fail
            go_roundw
            case rel => exact ⟨k + 1, k, true, by omega, by go_num, rfl, rfl, HL2, hbt⟩
            case measure => simp [intOf]; omega
          · obtain ⟨z, hz, u3, hzc⟩ := HZ.out rfl
            have u4 : (0 : Int) ≤ (b : Int) := Int.natCast_nonneg _
            have HZC := Lib.hid hzc
            by_cases hless : x.s < z.s
            · have dd : decide (x.s < z.s) = true := decide_eq_true hless
              have HL2 : Hid (LsI xs l y (k + 1) k true) := Lib.hid (.inr ⟨rfl, ls_better HX.out hcc hs hz hless⟩)
              clear hu s1 hcc hs HL hL HZ hz hzc hless
              go_wp2_with fail
              rw [← HW.out]
              obtain ⟨T, g, t0, hT, ht0, hf, hback⟩ := class_of W0
              have j0 : ∀ t, (g t).cell? ⟨wr.heap.size, 0, none⟩ = some (.string x.t) := fun t => (KC.out _ (hf t)).1
              have j1 : ∀ t, (g t).cell? ⟨wr.heap.size, 1, none⟩ = some (.string x.l) := fun t => (KC.out _ (hf t)).2.1
              have j2 : ∀ t, (g t).cell? ⟨wr.heap.size, 2, none⟩ = some (.int .i64 x.s) := fun t => (KC.out _ (hf t)).2.2.1
              have j3 : ∀ t, (g t).cell? ⟨wr.heap.size, 3, none⟩ = some (.int .i64 x.f) := fun t => (KC.out _ (hf t)).2.2.2.1
              have j4 : ∀ t, (g t).cell? ⟨wr.heap.size, 4, none⟩ = some (.int .i64 x.u) := fun t => (KC.out _ (hf t)).2.2.2.2
              have j5 : ∀ t, (g t).cell? ⟨bk, o + b * 5 + 2, none⟩ = some (.int .i64 z.s) := fun t => HZC.out _ (hf t)
              have HF := Lib.hid hf
              have HK := Lib.hid hback
              clear hf hback c0 c1 c2 c3 c4 HW
              refine wp_region_class g t0 ht0 (by kernel_rfl) (by kernel_rfl) ?_
              clear ht0
              repeat (go_big_quiet_step (first | (go_at_call 65; exact Calls.class_of HF.out HK.out (CX.out _))))
              refine wpQuiet_nil ?_
              rintro w' ⟨t, rfl⟩
              have hbt := bstep9 HBW.out HBW.out.size (HF.out t)
              go_wp2_with fail
              go_roundw
              case rel => exact ⟨k + 1, k, true, by omega, by go_num, rfl, rfl, HL2, hbt⟩
              case measure => simp [intOf]; omega
            · have dd : decide (x.s < z.s) = false := decide_eq_false hless
              have HL2 : Hid (LsI xs l y (k + 1) b true) := Lib.hid (.inr ⟨rfl, ls_worse HX.out hcc hs hz hless⟩)
              clear hu s1 hcc hs HL hL HZ hz hzc hless
              go_wp2_with fail
              rw [← HW.out]
              obtain ⟨T, g, t0, hT, ht0, hf, hback⟩ := class_of W0
              have j0 : ∀ t, (g t).cell? ⟨wr.heap.size, 0, none⟩ = some (.string x.t) := fun t => (KC.out _ (hf t)).1
              have j1 : ∀ t, (g t).cell? ⟨wr.heap.size, 1, none⟩ = some (.string x.l) := fun t => (KC.out _ (hf t)).2.1
              have j2 : ∀ t, (g t).cell? ⟨wr.heap.size, 2, none⟩ = some (.int .i64 x.s) := fun t => (KC.out _ (hf t)).2.2.1
              have j3 : ∀ t, (g t).cell? ⟨wr.heap.size, 3, none⟩ = some (.int .i64 x.f) := fun t => (KC.out _ (hf t)).2.2.2.1
              have j4 : ∀ t, (g t).cell? ⟨wr.heap.size, 4, none⟩ = some (.int .i64 x.u) := fun t => (KC.out _ (hf t)).2.2.2.2
              have j5 : ∀ t, (g t).cell? ⟨bk, o + b * 5 + 2, none⟩ = some (.int .i64 z.s) := fun t => HZC.out _ (hf t)
              have HF := Lib.hid hf
              have HK := Lib.hid hback
              clear hf hback c0 c1 c2 c3 c4 HW
              refine wp_region_class g t0 ht0 (by kernel_rfl) (by kernel_rfl) ?_
              clear ht0
              repeat (go_big_quiet_step (first | (go_at_call 65; exact Calls.class_of HF.out HK.out (CX.out _))))
              refine wpQuiet_nil ?_
              rintro w' ⟨t, rfl⟩
              have hbt := bstep9 HBW.out HBW.out.size (HF.out t)
              go_wp2_with fail
              go_roundw
              case rel => exact ⟨k + 1, b, true, by omega, by go_num, rfl, rfl, HL2, hbt⟩
              case measure => simp [intOf]; omega
      · have z1 : (x.l.toList == l.toList) = false := by rw [toList_beq]; exact decide_eq_false s1
        have HL2 : Hid (LsI xs l y (k + 1) b f) := Lib.hid (by unfold LsI; rw [ls_skip HX.out (by rw [decide_eq_false s1]; rfl)]; exact HL.out)
        clear s1
        go_wp2_with fail
        rw [← HW.out]
        obtain ⟨T, g, t0, hT, ht0, hf, hback⟩ := class_of W0
        have j0 : ∀ t, (g t).cell? ⟨wr.heap.size, 0, none⟩ = some (.string x.t) := fun t => (KC.out _ (hf t)).1
        have j1 : ∀ t, (g t).cell? ⟨wr.heap.size, 1, none⟩ = some (.string x.l) := fun t => (KC.out _ (hf t)).2.1
        have HF := Lib.hid hf
        have HK := Lib.hid hback
        clear hf hback c0 c1 c2 c3 c4 HW
        refine wp_region_class g t0 ht0 (by kernel_rfl) (by kernel_rfl) ?_
        clear ht0
        repeat (go_big_quiet_step (fail))
        refine wpQuiet_nil ?_
        rintro w' ⟨t, rfl⟩
        have hbt := bstep9 HBW.out HBW.out.size (HF.out t)
        go_wp2_with fail
        go_roundw
        case rel => exact ⟨k + 1, b, f, by omega, by go_num, rfl, rfl, HL2, hbt⟩
        case measure => simp [intOf]; omega
    · have hkn : k = xs.length := by have := HN.out; omega
      have HL2 : Hid (leastV (lsF xs l y xs.length) = .tuple #[.int .i64 (b : Int), .bool f]) := Lib.hid (by
        rw [← hkn]
        rcases HL.out with ⟨rfl, rfl, hn⟩ | ⟨rfl, hs⟩
        · rw [hn]; rfl
        · rw [hs]; rfl)
      clear hkn
      go_wp2_with fail
      go_ret2
      exact ⟨by rw [HL2.out]; rfl, hbw⟩
end
section
set_option linter.unusedVariables false
open Go.RowKit

set_option maxHeartbeats 4000000 in
set_option maxRecDepth 100000 in
theorem cFindBest (A B : Option Addr) (n c n2 c2 : Nat) (xs : List Nm) (ls : List ByteArray) (y : Int) (w : World) (hb : n ≤ 1048576) (hb2 : n2 ≤ 1048576) (hz : Sz9 xs) (hl : ∀ x ∈ ls, x.size ≤ maxLen) (h : NmAt w w.heap.size A n xs) (hcap : n ≤ c) (h2 : TextAt w w.heap.size B n2 ls) (hsh : w.ShapedOpen Tryz.prog) (her : Er8 w) :
    Calls Tryz.prog 69 #[.slice A n c, .slice B n2 c2, .int .i64 y] w (FindOut (beZ xs ls y) (beC xs ls y) w) := by
  have CQ := Lib.hid (cQuest A B n c n2 c2 xs ls y w hb hb2 hz hl h hcap h2 hsh her.e)
  have HN2 := Lib.hid h2.1
  have H2 := Lib.hid h2
  have CL := Lib.hid (fun l W (hW : Below w.heap.size w W) => cLeast9 A n c xs l y W hb ((h.below hW (Nat.le_refl _)).more hW.size))
  have HE := Lib.hid (fun W (hW : Below w.heap.size w W) => (her.below hW).k)
  clear h h2 hsh her hz hl
  obtain ⟨q, hq⟩ : ∃ q, q = qC xs ls y := ⟨_, rfl⟩
  rw [← hq] at CQ
  go_enter Tryz.func69, Tryz.ntmps69
  go_wp2_with fail
  refine CQ.out.mono ?_
  rintro e w1 ⟨⟨v, rfl, hv⟩, hb1⟩
  rcases hv with ⟨rfl, rfl⟩ | ⟨hne, u, rfl⟩
  rotate_left
  · have HZ := Lib.hid (beZ_bad (xs := xs) (ls := ls) (y := y) (by rw [← hq]; exact hne))
    have HC : Hid (beC xs ls y = q) := Lib.hid ((beC_bad (by rw [← hq]; exact hne)).trans hq.symm)
    have HQ := Lib.hid hne
    clear hq hne
    go_wp2_with fail
    go_ret2
    exact ⟨⟨.iface 135 (.agg #[.int .i64 q, .iface 257 u]), by rw [HZ.out]; rfl, .inr ⟨by rw [HC.out]; exact HQ.out, u, by rw [HC.out]⟩⟩, hb1⟩
  have HQ := Lib.hid hq.symm
  have HB1 := Lib.hid hb1
  clear hq hb1 CQ
  go_wp2_with fail
  go_loopw [22] (fun i wr => ∃ k : Nat, k ≤ n2 ∧ i = .int .i64 k ∧ Hid (∀ (j : Nat) z, j < k → ls[j]? = some z → lsF xs z y xs.length = none) ∧ Below w.heap.size w wr) (fun i _ => n2 - (intOf i).toNat)
  case atStart => exact ⟨0, Nat.zero_le _, rfl, Lib.hid (fun j z hj => by omega), HB1.out⟩
  case round =>
    obtain ⟨k, hk, rfl, HA, hbw⟩ := hrel
    by_cases hlt : k < n2
    · obtain ⟨l, hx⟩ : ∃ x, ls[k]? = some x := ⟨ls[k]'(by have := HN2.out; omega), List.getElem?_eq_getElem _⟩
      obtain ⟨b, o, rfl, hbl, c0⟩ := (H2.out.below hbw (Nat.le_refl _)).row2 hx
      have HX := Lib.hid hx
      have CX := Lib.hid (CL.out l wr hbw)
      have u1 : (0 : Int) ≤ (k : Int) := Int.natCast_nonneg _
      have u2 : (k : Int) < (n2 : Int) := by omega
      clear hx
      cases ho : lsF xs l y xs.length with
      | none =>
        rw [ho] at CX
        dsimp only [leastV] at CX
        have HA2 : Hid (∀ (j : Nat) z, j < k + 1 → ls[j]? = some z → lsF xs z y xs.length = none) := Lib.hid (fun j z hj hjz => by
          by_cases hl : j < k
          · exact HA.out j z hl hjz
          · obtain rfl : j = k := by omega
            rw [HX.out] at hjz; obtain rfl := Option.some.inj hjz; exact ho)
        clear ho
        go_wp2_with fail
        refine CX.out.mono ?_
        rintro e w2 ⟨rfl, g2⟩
        have hbt := bstep9 hbw hbw.size g2
        clear g2 CX
        go_wp2_with fail
        go_roundw
        case rel => exact ⟨k + 1, by omega, by go_num, HA2, hbt⟩
        case measure => simp [intOf]; omega
      | some m =>
        rw [ho] at CX
        dsimp only [leastV] at CX
        have HF := Lib.hid (best_hit ho HX.out HA.out)
        clear ho
        go_wp2_with fail
        refine CX.out.mono ?_
        rintro e w2 ⟨rfl, g2⟩
        have hbt := bstep9 hbw hbw.size g2
        clear g2 CX
        go_wp2_with fail
        go_ret2
        exact ⟨⟨.nilIface, by rw [beZ_hit HQ.out HF.out]; rfl, .inl ⟨beC_hit HQ.out HF.out, rfl⟩⟩, hbt⟩
    · have HF := Lib.hid (best_miss (xs := xs) (y := y) (ls := ls) (fun j z hj => HA.out j z (by have h1 := (List.getElem?_eq_some_iff.1 hj).1; have := HN2.out; omega) hj))
      obtain ⟨v, hv⟩ := HE.out wr hbw
      go_wp2_with fail
      go_quiet (fail)
      go_wp2_with fail
      go_ret2
      exact ⟨⟨.iface 135 (.agg #[.int .i64 4, .iface 257 v]), by rw [beZ_miss HQ.out HF.out]; rfl, .inr ⟨by rw [beC_miss HQ.out HF.out]; decide, v, by rw [beC_miss HQ.out HF.out]⟩⟩, below_drN_r hbw _⟩

set_option maxHeartbeats 1000000 in
theorem cBest_impl (A B : Option Addr) (n c n2 c2 : Nat) (xs : List Nm) (ls : List ByteArray) (y : Int) (w : World) (hb : n ≤ 1048576) (hb2 : n2 ≤ 1048576) (hz : Sz9 xs) (hl : ∀ x ∈ ls, x.size ≤ maxLen) (h : NmAt w w.heap.size A n xs) (hcap : n ≤ c) (h2 : TextAt w w.heap.size B n2 ls) (hsh : w.ShapedOpen Tryz.prog) (her : Er8 w) :
    Calls Tryz.prog 24 #[.slice A n c, .slice B n2 c2, .int .i64 y] w fun e w' => e = .returned (.tuple #[.int .i64 (beZ xs ls y), .int .i64 (beC xs ls y)]) ∧ Below w.heap.size w w' := by
  have CF := Lib.hid (cFindBest A B n c n2 c2 xs ls y w hb hb2 hz hl h hcap h2 hsh her)
  have CN := Lib.hid (fun W => cCodeNil W)
  have CR := Lib.hid (fun (q : Int) u W (hW : Below w.heap.size w W) => cCodeRef q (.iface 257 u) W rfl (her.e.t.below hW))
  clear h h2 hsh her hz
  obtain ⟨z, hz⟩ : ∃ z, z = beZ xs ls y := ⟨_, rfl⟩
  obtain ⟨q, hq⟩ : ∃ q, q = beC xs ls y := ⟨_, rfl⟩
  rw [← hz, ← hq] at CF ⊢
  clear hz hq
  go_enter Tryz.func24, Tryz.ntmps24
  go_wp2_with fail
  refine CF.out.mono ?_
  rintro e w1 ⟨⟨v, rfl, hv⟩, hb1⟩
  rcases hv with ⟨rfl, rfl⟩ | ⟨_, u, rfl⟩
  · go_wp2_with fail
    refine (CN.out _).mono ?_
    rintro e w2 ⟨rfl, hb2⟩
    go_wp2_with fail
    go_ret2
    exact ⟨rfl, bstep9 hb1 hb1.size hb2⟩
  · go_wp2_with fail
    refine (CR.out _ _ _ hb1).mono ?_
    rintro e w2 ⟨rfl, hb2⟩
    go_wp2_with fail
    go_ret2
    exact ⟨rfl, bstep9 hb1 hb1.size hb2⟩
end
end Go.Proofs.YthlilfdndpnbkaaGreatDoor
