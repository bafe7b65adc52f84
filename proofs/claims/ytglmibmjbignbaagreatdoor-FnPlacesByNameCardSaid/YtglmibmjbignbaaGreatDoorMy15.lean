/-
  The contracts of IsRegister, checkRegister, existsIn of the program.
-/
import Derived.Test.YtglmibmjbignbaaGreatDoorMy14
import Derived.Laws.Cover1
import Derived.Laws.Shifts
import Derived.Test.YtglmibmjbignbaaGreatDoorMy10
namespace Go.Proofs.YtglmibmjbignbaaGreatDoor
section
set_option linter.unusedVariables false
open Go.RowKit

theorem bytesLess11 (a b : ByteArray) : Op.bytesLess a.toList b.toList = ltB a b := less_dec a b
theorem le_yes {a b : ByteArray} (h : ltB b a = true) : Op.bytesLess a.toList b.toList = false ∧ (a.toList == b.toList) = false := by
  rw [bytesLess11, toList_beq]
  rw [ltB_iff] at h
  refine ⟨(ltB_not _ _).2 (fun k => ltT_irr _ (ltT_tr _ _ _ h k)), decide_eq_false (fun e => ?_)⟩
  subst e; exact ltT_irr _ h
theorem le_no {a b : ByteArray} (h : ltB b a = false) : (Op.bytesLess a.toList b.toList = true ∧ (a.toList == b.toList) = false) ∨ (Op.bytesLess a.toList b.toList = false ∧ (a.toList == b.toList) = true) := by
  rw [bytesLess11, toList_beq]
  rw [ltB_not] at h
  by_cases e : a = b
  · subst e; exact .inr ⟨(ltB_not _ _).2 (ltT_irr _), decide_eq_true rfl⟩
  · exact .inl ⟨(ltB_iff _ _).2 (ltT_tri _ _ h (fun k => e k.symm)), decide_eq_false e⟩
set_option maxHeartbeats 4000000 in
set_option maxRecDepth 100000 in
theorem cIsReg_impl (A : Option Addr) (n c : Nat) (ps : List Pl) (w : World) (hb : n ≤ 1048576) (hz : Sz11 ps) (h : PlAt w w.heap.size A n ps) (hsh : w.ShapedOpen Tryz.prog) (her : Er6 w) :
    Calls Tryz.prog 23 #[.slice A n c] w fun e w' => e = .returned (.bool (regB ps)) ∧ Below w.heap.size w w' := by
  have HN := Lib.hid h.1
  have H := Lib.hid h
  have CC := Lib.hid (fun (p : Pl) (hp : p ∈ ps) A d W (hW : Below w.heap.size w W) (hn : NmAt W W.heap.size A p.ns.length p.ns) (hd : p.ns.length ≤ d) =>
    cIsPl_impl p A d W (by have := (hz p hp).1; unfold maxLen; omega) (hz p hp).2.1 (hz p hp).2.2 hn hd (shaped_below hsh hW) (her.below hW))
  clear h hsh her hz
  by_cases hlen : 10 < n
  · have HX := Lib.hid (reg_long (ps := ps) (by have := HN.out; omega))
    go_enter Tryz.func23, Tryz.ntmps23
    go_wp2_with fail
    go_ret
    exact ⟨ret_bool HX.out.symm, Below.refl _ _⟩
  go_enter Tryz.func23, Tryz.ntmps23
  go_wp2_with fail
  go_loopw [10] (fun i wr => ∃ k : Nat, k ≤ n ∧ i = .int .i64 k ∧ Hid (GoodP (ps.take k)) ∧ Below w.heap.size w wr) (fun i _ => n - (intOf i).toNat)
  case atStart => exact ⟨0, Nat.zero_le _, rfl, Lib.hid (goodP_zero ps), Below.refl _ _⟩
  case round =>
    obtain ⟨k, hk, rfl, HG, hbw⟩ := hrel
    by_cases hlt : k < n
    · obtain ⟨p, hp⟩ : ∃ p, ps[k]? = some p := ⟨ps[k]'(by have := HN.out; omega), List.getElem?_eq_getElem _⟩
      have hrow := (H.out.below hbw (Nat.le_refl _)).row hp
      have HPREV : Hid (0 < k → ∃ q A' d', ps[k - 1]? = some q ∧ ∃ b o, A = some ⟨b, o, none⟩ ∧ b < w.heap.size ∧ wr.cell? ⟨b, o + (k - 1) * 5, none⟩ = some (.string q.c)) := Lib.hid (fun h0 => by
        obtain ⟨q, hq⟩ : ∃ q, ps[k - 1]? = some q := ⟨ps[k - 1]'(by have := HN.out; omega), List.getElem?_eq_getElem _⟩
        obtain ⟨b, o, h1, h2, A', d', h3, _⟩ := (H.out.below hbw (Nat.le_refl _)).row hq
        exact ⟨q, A', d', hq, b, o, h1, h2, h3⟩)
      obtain ⟨b, o, rfl, hbl, A1, d1, c0, c1, c2, c3, c4, hnm, hd⟩ := hrow
      have hbo := hbw.alloc hbw.size (.cells #[.string p.c, .int .i64 p.k, .int .i64 p.f, .int .i64 p.u, .slice A1 p.ns.length d1] 29)
      have CX := Lib.hid (fun W (hW : Below wr.heap.size wr W) => CC.out p (List.mem_of_getElem? hp) A1 d1 W (bstep9 hbw hbw.size hW) ((hnm.more hbw.size).grow hW) hd)
      have HBX := Lib.hid (Bx.new wr #[.string p.c, .int .i64 p.k, .int .i64 p.f, .int .i64 p.u, .slice A1 p.ns.length d1] 29)
      have HP := Lib.hid hp
      have HB := Lib.hid hbw
      have HBO := Lib.hid hbo
      have HBL := Lib.hid (Nat.lt_of_lt_of_le hbl hbw.size)
      have u1 : (0 : Int) ≤ (k : Int) := Int.natCast_nonneg _
      have u2 : (k : Int) < (n : Int) := by omega
      obtain ⟨q, hq⟩ : ∃ q, q = plB p := ⟨_, rfl⟩
      rw [← hq] at CX
      clear hp hnm hbo
      go_wp2_with fail
      obtain ⟨W0, hW0⟩ : ∃ W0 : World, W0 = wr.alloc (.cells #[.string p.c, .int .i64 p.k, .int .i64 p.f, .int .i64 p.u, .slice A1 p.ns.length d1] 29) := ⟨_, rfl⟩
      rw [← hW0]
      have HBW : Hid (Below wr.heap.size wr W0) := Lib.hid (by rw [hW0]; exact below_alloc11 _ _)
      rw [← hW0] at HBX HBO
      obtain ⟨T, f, t0, hT, ht0, hf, hback⟩ := class_of W0
      have k0 : ∀ t, (f t).cell? ⟨wr.heap.size, 0, none⟩ = some (.string p.c) := fun t => (HBX.out.next (hf t)).five.1
      have k1 : ∀ t, (f t).cell? ⟨wr.heap.size, 1, none⟩ = some (.int .i64 p.k) := fun t => (HBX.out.next (hf t)).five.2.1
      have k2 : ∀ t, (f t).cell? ⟨wr.heap.size, 2, none⟩ = some (.int .i64 p.f) := fun t => (HBX.out.next (hf t)).five.2.2.1
      have k3 : ∀ t, (f t).cell? ⟨wr.heap.size, 3, none⟩ = some (.int .i64 p.u) := fun t => (HBX.out.next (hf t)).five.2.2.2.1
      have k4 : ∀ t, (f t).cell? ⟨wr.heap.size, 4, none⟩ = some (.slice A1 p.ns.length d1) := fun t => (HBX.out.next (hf t)).five.2.2.2.2.1
      have HF := Lib.hid hf
      have HK := Lib.hid hback
      clear hf hback c0 c1 c2 c3 c4 hW0
      cases q
      · have HX := Lib.hid (reg_no (goodP_bad HP.out hq.symm))
        clear hq
        refine wp_region_class f t0 ht0 (by kernel_rfl) (by kernel_rfl) ?_
        clear ht0
        repeat (go_big_quiet_step (first | (go_at_call 25; exact Calls.class_of HF.out HK.out (CX.out _ (bstep9 HBW.out HBW.out.size (HF.out _))))))
        refine wpQuiet_nil ?_
        rintro w' ⟨t, rfl⟩
        have hbt := bstep9 HBO.out HBO.out.size (HF.out t)
        go_wp2_with fail
        go_ret
        exact ⟨ret_bool HX.out.symm, hbt⟩
      · have HQ := Lib.hid hq
        clear hq
        by_cases h0 : 0 < k
        · obtain ⟨q', A', d', hq', b', o', hA', _, hc'⟩ := HPREV.out h0
          obtain ⟨rfl, rfl⟩ : b = b' ∧ o = o' := by injection hA' with hA'; injection hA' with e1 e2; exact ⟨e1, e2⟩
          have m0 : ∀ t, (f t).cell? ⟨b, o + (k - 1) * 5, none⟩ = some (.string q'.c) := fun t => ((HF.out t).cell (p := ⟨b, o + (k - 1) * 5, none⟩) (Nat.lt_of_lt_of_le HBL.out HBW.out.size)).trans ((HBW.out.cell (p := ⟨b, o + (k - 1) * 5, none⟩) HBL.out).trans hc')
          have u3 : (0 : Int) < (k : Int) := by omega
          have u4 : (0 : Int) ≤ (k : Int) - 1 := by omega
          have u5 : (k : Int) - 1 < (n : Int) := by omega
          have u6 : ((k : Int) - 1).toNat = k - 1 := by omega
          have u7 : IntKind.i64.wrap ((k : Int) - 1) = (k : Int) - 1 := by rw [IntKind.wrap_i64]; omega
          have HQ' := Lib.hid hq'
          clear hA' hc' hq'
          rcases hv : ltB q'.c p.c with _ | _
          · have HX := Lib.hid (reg_no (goodP_ord HP.out h0 HQ'.out hv))
            rcases le_no hv with ⟨hl1, hl2⟩ | ⟨hl1, hl2⟩
            all_goals
              clear hv
              refine wp_region_class f t0 ht0 (by kernel_rfl) (by kernel_rfl) ?_
              clear ht0
              repeat (go_big_quiet_step (first | (go_at_call 25; exact Calls.class_of HF.out HK.out (CX.out _ (bstep9 HBW.out HBW.out.size (HF.out _))))))
              refine wpQuiet_nil ?_
              rintro w' ⟨t, rfl⟩
              have hbt := bstep9 HBO.out HBO.out.size (HF.out t)
              go_wp2_with fail
              go_ret
              exact ⟨ret_bool HX.out.symm, hbt⟩
          · have HG2 := Lib.hid (goodP_step HP.out HG.out HQ.out.symm (fun x _ hx => by rw [HQ'.out] at hx; obtain rfl := Option.some.inj hx; exact hv))
            obtain ⟨hl1, hl2⟩ := le_yes hv
            clear hv
            refine wp_region_class f t0 ht0 (by kernel_rfl) (by kernel_rfl) ?_
            clear ht0
            repeat (go_big_quiet_step (first | (go_at_call 25; exact Calls.class_of HF.out HK.out (CX.out _ (bstep9 HBW.out HBW.out.size (HF.out _))))))
            refine wpQuiet_nil ?_
            rintro w' ⟨t, rfl⟩
            have hbt := bstep9 HBO.out HBO.out.size (HF.out t)
            go_wp2_with fail
            go_roundw
            case rel => exact ⟨k + 1, by omega, by go_num, HG2, hbt⟩
            case measure => simp [intOf]; omega
        · obtain rfl : k = 0 := by omega
          have HG2 := Lib.hid (goodP_step HP.out HG.out HQ.out.symm (fun x hx => absurd hx (by omega)))
          refine wp_region_class f t0 ht0 (by kernel_rfl) (by kernel_rfl) ?_
          clear ht0
          repeat (go_big_quiet_step (first | (go_at_call 25; exact Calls.class_of HF.out HK.out (CX.out _ (bstep9 HBW.out HBW.out.size (HF.out _))))))
          refine wpQuiet_nil ?_
          rintro w' ⟨t, rfl⟩
          have hbt := bstep9 HBO.out HBO.out.size (HF.out t)
          go_wp2_with fail
          go_roundw
          case rel => exact ⟨0 + 1, by omega, by go_num, HG2, hbt⟩
          case measure => simp [intOf]; omega
    · have HG2 := Lib.hid (reg_yes (ps := ps) (by have := HN.out; omega) (goodP_end (k := k) (by have := HN.out; omega) HG.out))
      go_wp2_with fail
      go_ret
      exact ⟨ret_bool HG2.out.symm, hbw⟩
end
section
set_option linter.unusedVariables false
open Go.RowKit

theorem cNaN (a : ByteArray) (w : World) : Calls Tryz.prog 156 #[.string a] w fun e w' => e = .returned (.bool false) ∧ w = w' := by
  have h1 : (a.toList != a.toList) = false := by simp
  go_enter Tryz.func156, Tryz.ntmps156
  go_wp2_with fail
  go_ret
  exact ⟨rfl, rfl⟩
def cmpT (a b : ByteArray) : Int := if ltB a b then -1 else if a = b then 0 else 1
theorem cmp_lt {a b : ByteArray} (h : ltB a b = true) : cmpT a b = -1 := by unfold cmpT; rw [if_pos h]
theorem cmp_eq {a b : ByteArray} (h : ltB a b = false) (e : a = b) : cmpT a b = 0 := by unfold cmpT; rw [if_neg (by rw [h]; simp), if_pos e]
theorem cmp_gt {a b : ByteArray} (h : ltB a b = false) (e : a ≠ b) : cmpT a b = 1 := by unfold cmpT; rw [if_neg (by rw [h]; simp), if_neg e]
theorem cmp_neg (a b : ByteArray) : decide (cmpT a b < 0) = ltB a b := by
  unfold cmpT
  cases ltB a b
  · by_cases e : a = b
    · rw [if_neg (by simp), if_pos e]; rfl
    · rw [if_neg (by simp), if_neg e]; rfl
  · rw [if_pos rfl]; rfl
theorem cmp_zero (a b : ByteArray) : (cmpT a b == 0) = decide (a = b) := by
  unfold cmpT
  by_cases e : a = b
  · subst e
    have : ltB a a = false := (ltB_not _ _).2 (ltT_irr _)
    rw [this]; simp
  · cases ltB a b <;> simp [e]
theorem cCmp (a b : ByteArray) (w : World) : Calls Tryz.prog 119 #[.string a, .string b] w fun e w' => e = .returned (.int .i64 (cmpT a b)) ∧ w = w' := by
  have CA := Lib.hid (fun W => cNaN a W)
  have CB := Lib.hid (fun W => cNaN b W)
  cases hl : ltB a b
  · have h1 : Op.bytesLess a.toList b.toList = false := by rw [bytesLess11]; exact hl
    by_cases e : a = b
    · rw [cmp_eq hl e]
      have h2 : (a.toList == b.toList) = true := by rw [toList_beq]; exact decide_eq_true e
      clear hl e
      go_enter Tryz.func119, Tryz.ntmps119
      go_wp2_with fail
      refine (CA.out _).mono ?_
      rintro e w' ⟨rfl, rfl⟩
      go_wp2_with fail
      refine (CB.out _).mono ?_
      rintro e w' ⟨rfl, rfl⟩
      go_wp2_with fail
      go_ret
      exact ⟨rfl, rfl⟩
    · rw [cmp_gt hl e]
      have h2 : (a.toList == b.toList) = false := by rw [toList_beq]; exact decide_eq_false e
      clear hl e
      go_enter Tryz.func119, Tryz.ntmps119
      go_wp2_with fail
      refine (CA.out _).mono ?_
      rintro e w' ⟨rfl, rfl⟩
      go_wp2_with fail
      refine (CB.out _).mono ?_
      rintro e w' ⟨rfl, rfl⟩
      go_wp2_with fail
      go_ret
      exact ⟨rfl, rfl⟩
  · have h1 : Op.bytesLess a.toList b.toList = true := by rw [bytesLess11]; exact hl
    rw [cmp_lt hl]
    clear hl
    go_enter Tryz.func119, Tryz.ntmps119
    go_wp2_with fail
    refine (CA.out _).mono ?_
    rintro e w' ⟨rfl, rfl⟩
    go_wp2_with fail
    refine (CB.out _).mono ?_
    rintro e w' ⟨rfl, rfl⟩
    go_wp2_with fail
    go_ret
    exact ⟨rfl, rfl⟩
theorem cSearch1 (p : Pl) (A : Option Addr) (d : Nat) (s : ByteArray) (w : World) : Calls Tryz.prog 118 #[plv11 p A d, .string s] w fun e w' => e = .returned (.int .i64 (cmpT p.c s)) ∧ Below w.heap.size w w' := by
  have CC := Lib.hid (fun W => cCmp p.c s W)
  have HA := Lib.hid (below_alloc11 w (.cells #[.string p.c, .int .i64 p.k, .int .i64 p.f, .int .i64 p.u, .slice A p.ns.length d] 29))
  go_enter Tryz.func118, Tryz.ntmps118
  go_wp2_with fail
  refine (CC.out _).mono ?_
  rintro e w' ⟨rfl, rfl⟩
  go_wp2_with fail
  go_ret
  exact ⟨rfl, HA.out⟩

/-- The codes grow. -/
def Grows (ps : List Pl) : Prop := ∀ (i j : Nat) p q, i < j → ps[i]? = some p → ps[j]? = some q → ltT p.c q.c
theorem grows_of {ps : List Pl} (h : GoodP ps) : Grows ps := fun i j p q hij h1 h2 => goodP_pair h hij h1 h2
theorem at_low {ps : List Pl} {s : ByteArray} {m : Nat} {p : Pl} (hg : Grows ps) (hp : ps[m]? = some p) (hl : ltB p.c s = true) : m + 1 ≤ atP ps s := by
  rcases Nat.lt_or_ge m (atP ps s) with h | h
  · exact h
  · exfalso
    have hml := (List.getElem?_eq_some_iff.1 hp).1
    obtain ⟨q, hq⟩ : ∃ q, ps[atP ps s]? = some q := ⟨ps[atP ps s]'(by omega), List.getElem?_eq_getElem _⟩
    have h1 := atP_stop hq
    rcases Nat.lt_or_ge (atP ps s) m with h2 | h2
    · have h3 := hg _ _ _ _ h2 hq hp
      rw [ltB_not] at h1
      exact h1 (ltT_tr _ _ _ h3 ((ltB_iff _ _).1 hl))
    · obtain rfl : m = atP ps s := by omega
      rw [hp] at hq
      obtain rfl := Option.some.inj hq
      rw [hl] at h1; cases h1
theorem at_high {ps : List Pl} {s : ByteArray} {m : Nat} {p : Pl} (hp : ps[m]? = some p) (hl : ltB p.c s = false) : atP ps s ≤ m := by
  rcases Nat.lt_or_ge m (atP ps s) with h | h
  · have := atP_lt h hp; rw [hl] at this; cases this
  · exact h
theorem mid_facts (i j n : Nat) (h1 : i < j) (h2 : j ≤ n) (h3 : n ≤ 1048576) : i ≤ (i + j) / 2 ∧ (i + j) / 2 < j ∧ (i + j) / 2 < n := by omega
set_option maxHeartbeats 2000000 in
set_option maxRecDepth 100000 in
theorem cBin (A : Option Addr) (n c : Nat) (ps : List Pl) (s : ByteArray) (w : World) (hb : n ≤ 1048576) (hg : Grows ps) (h : PlAt w w.heap.size A n ps) :
    Calls Tryz.prog 117 #[.slice A n c, .string s, .func (.func 118) #[] #[]] w fun e w' => e = .returned (.tuple #[.int .i64 (atP ps s : Nat), .bool (thereB ps s)]) ∧ Below w.heap.size w w' := by
  have H := Lib.hid h
  have HN := Lib.hid h.1
  have HG := Lib.hid hg
  have CC := Lib.hid (fun p A d W => cSearch1 p A d s W)
  clear h hg
  obtain ⟨a, ha⟩ : ∃ a, a = atP ps s := ⟨_, rfl⟩
  have HAT : Hid (a = atP ps s) := Lib.hid ha
  have HLE : Hid (a ≤ n) := Lib.hid (by rw [ha, HN.out]; exact atP_le ps s)
  rw [← ha]
  clear ha
  go_enter Tryz.func117, Tryz.ntmps117
  go_wp2_with fail
  go_loopw [9, 10] (fun x y wr => ∃ i j : Nat, x = .int .i64 i ∧ y = .int .i64 j ∧ Hid (i ≤ a) ∧ Hid (a ≤ j) ∧ j ≤ n ∧ Below w.heap.size w wr) (fun x y _ => (intOf y).toNat - (intOf x).toNat)
  case atStart => exact ⟨0, n, rfl, rfl, Lib.hid (Nat.zero_le _), HLE, Nat.le_refl _, Below.refl _ _⟩
  case round =>
    obtain ⟨i, j, rfl, rfl, HI, HJ, hjn, hbw⟩ := hrel
    by_cases hlt : i < j
    · obtain ⟨m1, m2, m3⟩ := mid_facts i j n hlt hjn hb
      obtain ⟨p, hp⟩ : ∃ p, ps[(i + j) / 2]? = some p := ⟨ps[(i + j) / 2]'(by have := HN.out; omega), List.getElem?_eq_getElem _⟩
      obtain ⟨b, o, rfl, hbl, A1, d1, c0, c1, c2, c3, c4, hnm, _⟩ := (H.out.below hbw (Nat.le_refl _)).row hp
      have CX := Lib.hid (CC.out p A1 d1 wr)
      have HP := Lib.hid hp
      have u1 : (i : Int) < (j : Int) := by omega
      clear hp hnm
      go_wp2_with fail
      refine CX.out.mono ?_
      rintro e w1 ⟨rfl, g1⟩
      have hbt := bstep9 hbw hbw.size g1
      cases hl : ltB p.c s
      · have hneg : ¬ cmpT p.c s < 0 := by have := cmp_neg p.c s; rw [hl] at this; simpa using this
        have HJ2 : Hid (a ≤ (i + j) / 2) := Lib.hid (by rw [HAT.out]; exact at_high HP.out hl)
        clear hl g1
        go_wp2_with fail
        go_roundw
        case rel => exact ⟨i, (i + j) / 2, rfl, by rw [show ((i : Int) + (j : Int)) / 2 = (((i + j) / 2 : Nat) : Int) by omega], HI, HJ2, by omega, hbt⟩
        case measure => simp [intOf]; omega
      · have hneg : cmpT p.c s < 0 := by have := cmp_neg p.c s; rw [hl] at this; simpa using this
        have HI2 : Hid ((i + j) / 2 + 1 ≤ a) := Lib.hid (by rw [HAT.out]; exact at_low HG.out HP.out hl)
        clear hl g1
        go_wp2_with fail
        go_roundw
        case rel => exact ⟨(i + j) / 2 + 1, j, by rw [show ((i : Int) + (j : Int)) / 2 + 1 = (((i + j) / 2 + 1 : Nat) : Int) by omega], rfl, HI2, HJ, hjn, hbt⟩
        case measure => simp [intOf]; omega
    · obtain rfl : i = a := by have h1 := HI.out; have h2 := HJ.out; omega
      obtain rfl : i = j := by have h2 := HJ.out; omega
      by_cases hin : i < n
      · obtain ⟨p, hp⟩ : ∃ p, ps[i]? = some p := ⟨ps[i]'(by have := HN.out; omega), List.getElem?_eq_getElem _⟩
        obtain ⟨b, o, rfl, hbl, A1, d1, c0, c1, c2, c3, c4, hnm, _⟩ := (H.out.below hbw (Nat.le_refl _)).row hp
        have CX := Lib.hid (CC.out p A1 d1 wr)
        have HTH : Hid (thereB ps s = decide (p.c = s)) := Lib.hid (there_some (by rw [← HAT.out]; exact hp))
        have hz := cmp_zero p.c s
        obtain ⟨z, hzz⟩ : ∃ z, z = decide (p.c = s) := ⟨_, rfl⟩
        rw [← hzz] at HTH hz
        have u1 : (i : Int) < (n : Int) := by omega
        have u2 : (0 : Int) ≤ (i : Int) := Int.natCast_nonneg _
        clear hp hnm hzz
        go_wp2_with fail
        refine CX.out.mono ?_
        rintro e w1 ⟨rfl, g1⟩
        have hbt := bstep9 hbw hbw.size g1
        clear g1
        go_wp2_with fail
        go_ret2
        exact ⟨by rw [HTH.out]; rfl, hbt⟩
      · have HTH : Hid (thereB ps s = false) := Lib.hid (there_none (by rw [← HAT.out]; exact List.getElem?_eq_none (by have := HN.out; omega)))
        have u1 : ¬ (i : Int) < (n : Int) := by omega
        go_wp2_with fail
        go_ret2
        exact ⟨by rw [HTH.out]; rfl, hbw⟩
theorem cSearch (A : Option Addr) (n c : Nat) (ps : List Pl) (s : ByteArray) (w : World) (hb : n ≤ 1048576) (hg : Grows ps) (h : PlAt w w.heap.size A n ps) :
    Calls Tryz.prog 55 #[.slice A n c, .string s] w fun e w' => e = .returned (.tuple #[.int .i64 (atP ps s : Nat), .bool (thereB ps s)]) ∧ Below w.heap.size w w' := by
  have C := Lib.hid (cBin A n c ps s w hb hg h)
  clear h hg
  obtain ⟨a, ha⟩ : ∃ a, a = atP ps s := ⟨_, rfl⟩
  obtain ⟨t, ht⟩ : ∃ t, t = thereB ps s := ⟨_, rfl⟩
  rw [← ha, ← ht] at C ⊢
  clear ha ht
  go_enter Tryz.func55, Tryz.ntmps55
  go_wp2_with fail
  refine C.out.mono ?_
  rintro e w1 ⟨rfl, g1⟩
  go_wp2_with fail
  go_ret2
  exact ⟨rfl, g1⟩
end
section
set_option linter.unusedVariables false
open Go.RowKit

theorem wi_parts (f u : Int) (x : Nm) : (wiB f u x = true ∧ decide (x.f < f) = false ∧ decide (u < x.u) = false) ∨ (wiB f u x = false ∧ decide (x.f < f) = true) ∨ (wiB f u x = false ∧ decide (x.f < f) = false ∧ decide (u < x.u) = true) := by
  unfold wiB
  by_cases h1 : f ≤ x.f
  · by_cases h2 : x.u ≤ u
    · exact .inl ⟨by simp [h1, h2], decide_eq_false (by omega), decide_eq_false (by omega)⟩
    · exact .inr (.inr ⟨by simp [h2], decide_eq_false (by omega), decide_eq_true (by omega)⟩)
  · exact .inr (.inl ⟨by simp [h1], decide_eq_true (by omega)⟩)
theorem allW_step {f u : Int} {xs : List Nm} {k : Nat} {y : Nm} (h : xs[k]? = some y) (ha : (xs.take k).all (wiB f u) = true) (hc : wiB f u y = true) : (xs.take (k + 1)).all (wiB f u) = true := by
  rw [take_snoc9 h, List.all_append, ha]; simp [hc]
theorem allW_miss {f u : Int} {xs : List Nm} {k : Nat} {y : Nm} (h : xs[k]? = some y) (hc : wiB f u y = false) : xs.all (wiB f u) = false :=
  List.all_eq_false.2 ⟨y, List.mem_of_getElem? h, by simp [hc]⟩

set_option maxHeartbeats 4000000 in
set_option maxRecDepth 100000 in
theorem cIsPl_spec (p : Pl) (A : Option Addr) (d : Nat) (w : World) (hc : p.c.size ≤ maxLen) (hb : p.ns.length ≤ 1048576) (hz : Sz9 p.ns) (h : NmAt w w.heap.size A p.ns.length p.ns) :
    Calls Tryz.prog 26 #[plv11 p A d] w fun e w' => e = .returned (.bool (plB p)) ∧ Below w.heap.size w w' := by
  have hcs := pl_cases p
  obtain ⟨c, k, f, u, ns⟩ := p
  unfold plv11
  dsimp only at hc hb hz h hcs ⊢
  obtain ⟨b, hbb⟩ : ∃ b, b = plB ⟨c, k, f, u, ns⟩ := ⟨_, rfl⟩
  rw [← hbb] at hcs ⊢
  clear hbb
  have CW := Lib.hid (fun W => cIsWord_spec c W hc)
  have CI := Lib.hid (fun W => cIn_any k 0 19 W)
  have CV := Lib.hid (fun W => cIsSpan_spec f u W)
  have CN := Lib.hid (fun W (hW : Below w.heap.size w W) => cAreN_spec A ns.length d ns W hb hz (h.grow hW))
  have H := Lib.hid h
  clear h hz
  obtain ⟨n, hn⟩ : ∃ n, n = ns.length := ⟨_, rfl⟩
  rw [← hn] at hb CN H ⊢
  have HN := Lib.hid hn
  clear hn
  have HA := Lib.hid (below_alloc11 w (.cells #[.string c, .int .i64 k, .int .i64 f, .int .i64 u, .slice A n d] 29))
  have HX := Lib.hid (Bx.new w #[.string c, .int .i64 k, .int .i64 f, .int .i64 u, .slice A n d] 29)
  have key : ∀ (q : Bool), Hid (namesB ns = true → q = ns.all (wiB f u)) → (wordB c = true) → (decide (0 ≤ k) && decide (k ≤ 19)) = true → spB f u = true → namesB ns = true →
      Calls Tryz.prog 26 #[.agg #[.string c, .int .i64 k, .int .i64 f, .int .i64 u, .slice A n d]] w fun e w' => e = .returned (.bool q) ∧ Below w.heap.size w w' := by
    intro q HQ e1 e2 e4 e5
    rw [e1] at CW
    rw [e2] at CI
    rw [e4] at CV
    rw [e5] at CN
    have HQ2 := Lib.hid (HQ.out e5)
    clear e1 e2 e4 e5 HQ
    go_enter Tryz.func26, Tryz.ntmps26
    go_wp2_with fail
    refine (CW.out _).mono ?_
    rintro e w1 ⟨rfl, rfl⟩
    go_wp2_with fail
    refine (CI.out _).mono ?_
    rintro e w1 ⟨rfl, rfl⟩
    go_wp2_with fail
    refine (CV.out _).mono ?_
    rintro e w2 ⟨rfl, g2⟩
    obtain ⟨x0, x1, x2, x3, x4, _⟩ := (HX.out.next g2).five
    have hb2 := bstep9 HA.out HA.out.size g2
    have CN2 := Lib.hid (CN.out _ hb2)
    have HX2 := Lib.hid (HX.out.next g2)
    clear g2
    go_wp2_with fail
    refine CN2.out.mono ?_
    rintro e w3 ⟨rfl, g3⟩
    have hb3 := bstep9 hb2 hb2.size g3
    have HX3 := Lib.hid (HX2.out.next g3)
    have HB3 := Lib.hid hb3
    have HL3 := Lib.hid hb3.size
    clear g3 hb3 x0 x1 x2 x3 x4 HX2 CN2
    go_wp2_with fail
    go_loopw [3] (fun i wr => ∃ j : Nat, j ≤ n ∧ i = .int .i64 j ∧ Hid ((ns.take j).all (wiB f u) = true) ∧ Below w3.heap.size w3 wr) (fun i _ => n - (intOf i).toNat)
    case atStart => exact ⟨0, Nat.zero_le _, rfl, Lib.hid (by simp), Below.refl _ _⟩
    case round =>
      obtain ⟨j, hj, rfl, HA2, hbw⟩ := hrel
      have hbt := bstep9 HB3.out HL3.out hbw
      obtain ⟨x0, x1, x2, x3, x4, _⟩ := (HX3.out.next hbw).five
      by_cases hlt : j < n
      · obtain ⟨y, hy⟩ : ∃ y, ns[j]? = some y := ⟨ns[j]'(by have := HN.out; omega), List.getElem?_eq_getElem _⟩
        obtain ⟨b, o, rfl, hbl, c0, c1, c2, c3, c4⟩ := (H.out.below hbt (Nat.le_refl _)).row hy
        have HY := Lib.hid hy
        have u1 : (0 : Int) ≤ (j : Int) := Int.natCast_nonneg _
        have u2 : (j : Int) < (n : Int) := by omega
        clear hy
        rcases wi_parts f u y with ⟨hw, d1, d2⟩ | ⟨hw, d1⟩ | ⟨hw, d1, d2⟩
        · have HA3 := Lib.hid (allW_step HY.out HA2.out hw)
          clear hw
          go_wp2_with fail
          go_quiet (fail)
          go_wp2_with fail
          go_roundw
          case rel => exact ⟨j + 1, by omega, by go_num, HA3, below_drN_r hbw _⟩
          case measure => simp [intOf]; omega
        · have HM := Lib.hid (allW_miss HY.out hw)
          clear hw
          go_wp2_with fail
          go_quiet (fail)
          go_wp2_with fail
          go_ret
          exact ⟨ret_bool (by rw [HQ2.out, HM.out]), below_drN_r hbt _⟩
        · have HM := Lib.hid (allW_miss HY.out hw)
          clear hw
          go_wp2_with fail
          go_quiet (fail)
          go_wp2_with fail
          go_ret
          exact ⟨ret_bool (by rw [HQ2.out, HM.out]), below_drN_r hbt _⟩
      · have HM : Hid (ns.all (wiB f u) = true) := Lib.hid (by have := HA2.out; rwa [List.take_of_length_le (by have := HN.out; omega)] at this)
        go_wp2_with fail
        go_ret
        exact ⟨ret_bool (by rw [HQ2.out, HM.out]), hbt⟩
  rcases hcs with ⟨rfl, e1, e2, e3, e4, e5, e6⟩ | ⟨rfl, e1 | ⟨e1, e2 | ⟨e2, e3, e4 | ⟨e4, e5 | ⟨e5, e6⟩⟩⟩⟩⟩
  · exact key true (Lib.hid fun _ => e6.symm) e1 (by simp [e2, e3]) e4 e5
  · rw [e1] at CW
    clear e1 key
    go_enter Tryz.func26, Tryz.ntmps26
    go_wp2_with fail
    refine (CW.out _).mono ?_
    rintro e w1 ⟨rfl, rfl⟩
    go_wp2_with fail
    go_ret
    exact ⟨rfl, HA.out⟩
  · rw [e1] at CW
    rw [e2] at CI
    clear e1 e2 key
    go_enter Tryz.func26, Tryz.ntmps26
    go_wp2_with fail
    refine (CW.out _).mono ?_
    rintro e w1 ⟨rfl, rfl⟩
    go_wp2_with fail
    refine (CI.out _).mono ?_
    rintro e w1 ⟨rfl, rfl⟩
    go_wp2_with fail
    go_ret
    exact ⟨rfl, HA.out⟩
  · have e7 : (decide (0 ≤ k) && decide (k ≤ 19)) = true := by simp [e2, e3]
    rw [e1] at CW
    rw [e7] at CI
    rw [e4] at CV
    clear e1 e2 e3 e4 e7 key
    go_enter Tryz.func26, Tryz.ntmps26
    go_wp2_with fail
    refine (CW.out _).mono ?_
    rintro e w1 ⟨rfl, rfl⟩
    go_wp2_with fail
    refine (CI.out _).mono ?_
    rintro e w1 ⟨rfl, rfl⟩
    go_wp2_with fail
    refine (CV.out _).mono ?_
    rintro e w2 ⟨rfl, g2⟩
    have hb2 := bstep9 HA.out HA.out.size g2
    clear g2
    go_wp2_with fail
    go_ret
    exact ⟨rfl, hb2⟩
  · have e7 : (decide (0 ≤ k) && decide (k ≤ 19)) = true := by simp [e2, e3]
    rw [e1] at CW
    rw [e7] at CI
    rw [e4] at CV
    rw [e5] at CN
    clear e1 e2 e3 e4 e5 e7 key
    go_enter Tryz.func26, Tryz.ntmps26
    go_wp2_with fail
    refine (CW.out _).mono ?_
    rintro e w1 ⟨rfl, rfl⟩
    go_wp2_with fail
    refine (CI.out _).mono ?_
    rintro e w1 ⟨rfl, rfl⟩
    go_wp2_with fail
    refine (CV.out _).mono ?_
    rintro e w2 ⟨rfl, g2⟩
    obtain ⟨x0, x1, x2, x3, x4, _⟩ := (HX.out.next g2).five
    have hb2 := bstep9 HA.out HA.out.size g2
    have CN2 := Lib.hid (CN.out _ hb2)
    clear g2
    go_wp2_with fail
    refine CN2.out.mono ?_
    rintro e w3 ⟨rfl, g3⟩
    have hb3 := bstep9 hb2 hb2.size g3
    clear g3 x0 x1 x2 x3 x4
    go_wp2_with fail
    go_ret
    exact ⟨rfl, hb3⟩
  · exact key false (Lib.hid fun _ => e6.symm) e1 (by simp [e2, e3]) e4 e5

set_option maxHeartbeats 4000000 in
set_option maxRecDepth 100000 in
theorem cIsReg_spec (A : Option Addr) (n c : Nat) (ps : List Pl) (w : World) (hb : n ≤ 1048576) (hz : Sz11 ps) (h : PlAt w w.heap.size A n ps) :
    Calls Tryz.prog 24 #[.slice A n c] w fun e w' => e = .returned (.bool (regB ps)) ∧ Below w.heap.size w w' := by
  have HN := Lib.hid h.1
  have H := Lib.hid h
  have CC := Lib.hid (fun (p : Pl) (hp : p ∈ ps) A d W (hn : NmAt W W.heap.size A p.ns.length p.ns) =>
    cIsPl_spec p A d W (by have := (hz p hp).1; unfold maxLen; omega) (hz p hp).2.1 (hz p hp).2.2 hn)
  clear h hz
  go_enter Tryz.func24, Tryz.ntmps24
  go_wp2_with fail
  go_loopw [3] (fun i wr => ∃ k : Nat, k ≤ n ∧ i = .int .i64 k ∧ Hid (GoodP (ps.take k)) ∧ Below w.heap.size w wr) (fun i _ => n - (intOf i).toNat)
  case atStart => exact ⟨0, Nat.zero_le _, rfl, Lib.hid (goodP_zero ps), Below.refl _ _⟩
  case round =>
    obtain ⟨k, hk, rfl, HG, hbw⟩ := hrel
    by_cases hlt : k < n
    · obtain ⟨p, hp⟩ : ∃ p, ps[k]? = some p := ⟨ps[k]'(by have := HN.out; omega), List.getElem?_eq_getElem _⟩
      have hrow := (H.out.below hbw (Nat.le_refl _)).row hp
      have HPREV : Hid (0 < k → ∃ q A' d', ps[k - 1]? = some q ∧ ∃ b o, A = some ⟨b, o, none⟩ ∧ b < w.heap.size ∧ wr.cell? ⟨b, o + (k - 1) * 5, none⟩ = some (.string q.c)) := Lib.hid (fun h0 => by
        obtain ⟨q, hq⟩ : ∃ q, ps[k - 1]? = some q := ⟨ps[k - 1]'(by have := HN.out; omega), List.getElem?_eq_getElem _⟩
        obtain ⟨b, o, h1, h2, A', d', h3, _⟩ := (H.out.below hbw (Nat.le_refl _)).row hq
        exact ⟨q, A', d', hq, b, o, h1, h2, h3⟩)
      obtain ⟨b, o, rfl, hbl, A1, d1, c0, c1, c2, c3, c4, hnm, hd⟩ := hrow
      have CX := Lib.hid (fun W (hW : Below wr.heap.size wr W) => CC.out p (List.mem_of_getElem? hp) A1 d1 W ((hnm.more hbw.size).grow hW))
      have HP := Lib.hid hp
      have HB := Lib.hid hbw
      have HBL := Lib.hid (Nat.lt_of_lt_of_le hbl hbw.size)
      have u1 : (0 : Int) ≤ (k : Int) := Int.natCast_nonneg _
      have u2 : (k : Int) < (n : Int) := by omega
      obtain ⟨q, hq⟩ : ∃ q, q = plB p := ⟨_, rfl⟩
      rw [← hq] at CX
      clear hp hnm
      go_wp2_with fail
      obtain ⟨T, f, t0, hT, ht0, hf, hback⟩ := class_of wr
      have k0 : ∀ t, (f t).cell? ⟨b, o + k * 5, none⟩ = some (.string p.c) := fun t => ((hf t).cell (p := ⟨b, o + k * 5, none⟩) HBL.out).trans c0
      have k1 : ∀ t, (f t).cell? ⟨b, o + k * 5 + 1, none⟩ = some (.int .i64 p.k) := fun t => ((hf t).cell (p := ⟨b, o + k * 5 + 1, none⟩) HBL.out).trans c1
      have k2 : ∀ t, (f t).cell? ⟨b, o + k * 5 + 2, none⟩ = some (.int .i64 p.f) := fun t => ((hf t).cell (p := ⟨b, o + k * 5 + 2, none⟩) HBL.out).trans c2
      have k3 : ∀ t, (f t).cell? ⟨b, o + k * 5 + 3, none⟩ = some (.int .i64 p.u) := fun t => ((hf t).cell (p := ⟨b, o + k * 5 + 3, none⟩) HBL.out).trans c3
      have k4 : ∀ t, (f t).cell? ⟨b, o + k * 5 + 4, none⟩ = some (.slice A1 p.ns.length d1) := fun t => ((hf t).cell (p := ⟨b, o + k * 5 + 4, none⟩) HBL.out).trans c4
      have HF := Lib.hid hf
      have HK := Lib.hid hback
      clear hf hback c0 c1 c2 c3 c4 hbw
      cases q
      · have HX := Lib.hid (reg_no (goodP_bad HP.out hq.symm))
        clear hq
        refine wp_region_class f t0 ht0 (by kernel_rfl) (by kernel_rfl) ?_
        clear ht0
        repeat (go_big_quiet_step (first | (go_at_call 26; exact Calls.class_of HF.out HK.out (CX.out _ (HF.out _)))))
        refine wpQuiet_nil ?_
        rintro w' ⟨t, rfl⟩
        have hbt := bstep9 HB.out HB.out.size (HF.out t)
        go_wp2_with fail
        go_ret
        exact ⟨ret_bool HX.out.symm, hbt⟩
      · have HQ := Lib.hid hq
        clear hq
        by_cases h0 : 0 < k
        · obtain ⟨q', A', d', hq', b', o', hA', _, hc'⟩ := HPREV.out h0
          obtain ⟨rfl, rfl⟩ : b = b' ∧ o = o' := by injection hA' with hA'; injection hA' with e1 e2; exact ⟨e1, e2⟩
          have m0 : ∀ t, (f t).cell? ⟨b, o + (k - 1) * 5, none⟩ = some (.string q'.c) := fun t => ((HF.out t).cell (p := ⟨b, o + (k - 1) * 5, none⟩) HBL.out).trans hc'
          have u3 : (0 : Int) < (k : Int) := by omega
          have u4 : (0 : Int) ≤ (k : Int) - 1 := by omega
          have u5 : (k : Int) - 1 < (n : Int) := by omega
          have u6 : ((k : Int) - 1).toNat = k - 1 := by omega
          have u7 : IntKind.i64.wrap ((k : Int) - 1) = (k : Int) - 1 := by rw [IntKind.wrap_i64]; omega
          have HQ' := Lib.hid hq'
          obtain ⟨v, hv⟩ : ∃ v, v = ltB q'.c p.c := ⟨_, rfl⟩
          have hless : Op.bytesLess q'.c.toList p.c.toList = v := by rw [bytesLess11]; exact hv.symm
          have HV := Lib.hid hv
          clear hq' hA' hc' hv
          refine wp_region_class f t0 ht0 (by kernel_rfl) (by kernel_rfl) ?_
          clear ht0
          repeat (go_big_quiet_step (first | (go_at_call 26; exact Calls.class_of HF.out HK.out (CX.out _ (HF.out _)))))
          refine wpQuiet_nil ?_
          rintro w' ⟨t, rfl⟩
          have hbt := bstep9 HB.out HB.out.size (HF.out t)
          cases v
          · have HX := Lib.hid (reg_no (goodP_ord HP.out h0 HQ'.out HV.out.symm))
            go_wp2_with fail
            go_ret
            exact ⟨ret_bool HX.out.symm, hbt⟩
          · have HG2 := Lib.hid (goodP_step HP.out HG.out HQ.out.symm (fun x _ hx => by rw [HQ'.out] at hx; obtain rfl := Option.some.inj hx; exact HV.out.symm))
            go_wp2_with fail
            go_roundw
            case rel => exact ⟨k + 1, by omega, by go_num, HG2, hbt⟩
            case measure => simp [intOf]; omega
        · have u3 : ¬ (0 : Int) < (k : Int) := by omega
          have HG2 := Lib.hid (goodP_step HP.out HG.out HQ.out.symm (fun x hx => absurd hx h0))
          refine wp_region_class f t0 ht0 (by kernel_rfl) (by kernel_rfl) ?_
          clear ht0
          repeat (go_big_quiet_step (first | (go_at_call 26; exact Calls.class_of HF.out HK.out (CX.out _ (HF.out _)))))
          refine wpQuiet_nil ?_
          rintro w' ⟨t, rfl⟩
          have hbt := bstep9 HB.out HB.out.size (HF.out t)
          go_wp2_with fail
          go_roundw
          case rel => exact ⟨k + 1, by omega, by go_num, HG2, hbt⟩
          case measure => simp [intOf]; omega
    · have HG2 := Lib.hid (reg_sum n HN.out (goodP_end (k := k) (by have := HN.out; omega) HG.out))
      go_wp2_with fail
      go_ret
      exact ⟨ret_bool HG2.out.symm, hbw⟩
end
end Go.Proofs.YtglmibmjbignbaaGreatDoor
