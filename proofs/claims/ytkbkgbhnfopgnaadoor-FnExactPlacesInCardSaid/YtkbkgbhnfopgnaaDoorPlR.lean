/-
  The contracts of IsRegister, checkRegister, existsIn of the program.
-/
import Derived.Test.YtkbkgbhnfopgnaaDoorPlI
import Derived.Laws.Cover1
namespace Go.Proofs.YtkbkgbhnfopgnaaDoor
set_option linter.unusedVariables false
open Go.RowKit

theorem bytesLess11 (a b : ByteArray) : Op.bytesLess a.toList b.toList = ltB a b := less_dec a b
theorem le_yes {a b : ByteArray} (h : ltB b a = true) : Op.bytesLess a.toList b.toList = false ∧ (a.toList == b.toList) = false := by
  rw [bytesLess11, toList_beq]
  rw [ltB_iff] at h
  refine ⟨(ltB_not _ _).2 (fun k => ltT_irr _ (ltT_tr _ _ _ h k)), decide_eq_false (fun e => ?_)⟩
  subst e; exact ltT_irr _ h
theorem le_no {a b : ByteArray} (h : ltB b a = false) : (Op.bytesLess a.toList b.toList = true ∧ (a.toList == b.toList) = false) ∨ (Op.bytesLess a.toList b.toList = false ∧ (a.toList == b.toList) = true) := by
  rw [bytesLess11, toList_beq]
  rw [ltB_not] at h
  by_cases e : a = b
  · subst e; exact .inr ⟨(ltB_not _ _).2 (ltT_irr _), decide_eq_true rfl⟩
  · exact .inl ⟨(ltB_iff _ _).2 (ltT_tri _ _ h (fun k => e k.symm)), decide_eq_false e⟩
set_option maxHeartbeats 4000000 in
set_option maxRecDepth 100000 in
theorem cIsReg_impl (A : Option Addr) (n c : Nat) (ps : List Pl) (w : World) (hb : n ≤ 1048576) (hz : Sz11 ps) (h : PlAt w w.heap.size A n ps) (hsh : w.ShapedOpen Tryd.prog) (her : Er6 w) :
    Calls Tryd.prog 17 #[.slice A n c] w fun e w' => e = .returned (.bool (regB ps)) ∧ Below w.heap.size w w' := by
  have HN := Lib.hid h.1
  have H := Lib.hid h
  have CC := Lib.hid (fun (p : Pl) (hp : p ∈ ps) A d W (hW : Below w.heap.size w W) (hn : NmAt W W.heap.size A p.ns.length p.ns) (hd : p.ns.length ≤ d) =>
    cIsPl_impl p A d W (by have := (hz p hp).1; unfold maxLen; omega) (hz p hp).2.1 (hz p hp).2.2 hn hd (shaped_below hsh hW) (her.below hW))
  clear h hsh her hz
  by_cases hlen : 10 < n
  · have HX := Lib.hid (reg_long (ps := ps) (by have := HN.out; omega))
    go_enter Tryd.func17, Tryd.ntmps17
    go_wp2_with fail
    go_ret
    exact ⟨ret_bool HX.out.symm, Below.refl _ _⟩
  go_enter Tryd.func17, Tryd.ntmps17
  go_wp2_with fail
  go_loopw [10] (fun i wr => ∃ k : Nat, k ≤ n ∧ i = .int .i64 k ∧ Hid (GoodP (ps.take k)) ∧ Below w.heap.size w wr) (fun i _ => n - (intOf i).toNat)
  case atStart => exact ⟨0, Nat.zero_le _, rfl, Lib.hid (goodP_zero ps), Below.refl _ _⟩
  case round =>
    obtain ⟨k, hk, rfl, HG, hbw⟩ := hrel
    by_cases hlt : k < n
    · obtain ⟨p, hp⟩ : ∃ p, ps[k]? = some p := ⟨ps[k]'(by have := HN.out; omega), List.getElem?_eq_getElem _⟩
      have hrow := (H.out.below hbw (Nat.le_refl _)).row hp
      have HPREV : Hid (0 < k → ∃ q A' d', ps[k - 1]? = some q ∧ ∃ b o, A = some ⟨b, o, none⟩ ∧ b < w.heap.size ∧ wr.cell? ⟨b, o + (k - 1) * 5, none⟩ = some (.string q.c)) := Lib.hid (fun h0 => by
        obtain ⟨q, hq⟩ : ∃ q, ps[k - 1]? = some q := ⟨ps[k - 1]'(by have := HN.out; omega), List.getElem?_eq_getElem _⟩
        obtain ⟨b, o, h1, h2, A', d', h3, _⟩ := (H.out.below hbw (Nat.le_refl _)).row hq
        exact ⟨q, A', d', hq, b, o, h1, h2, h3⟩)
      obtain ⟨b, o, rfl, hbl, A1, d1, c0, c1, c2, c3, c4, hnm, hd⟩ := hrow
      have hbo := hbw.alloc hbw.size (.cells #[.string p.c, .int .i64 p.k, .int .i64 p.f, .int .i64 p.u, .slice A1 p.ns.length d1] 32)
      have CX := Lib.hid (fun W (hW : Below wr.heap.size wr W) => CC.out p (List.mem_of_getElem? hp) A1 d1 W (bstep9 hbw hbw.size hW) ((hnm.more hbw.size).grow hW) hd)
      have HBX := Lib.hid (Bx.new wr #[.string p.c, .int .i64 p.k, .int .i64 p.f, .int .i64 p.u, .slice A1 p.ns.length d1] 32)
      have HP := Lib.hid hp
      have HB := Lib.hid hbw
      have HBO := Lib.hid hbo
      have HBL := Lib.hid (Nat.lt_of_lt_of_le hbl hbw.size)
      have u1 : (0 : Int) ≤ (k : Int) := Int.natCast_nonneg _
      have u2 : (k : Int) < (n : Int) := by omega
      obtain ⟨q, hq⟩ : ∃ q, q = plB p := ⟨_, rfl⟩
      rw [← hq] at CX
      clear hp hnm hbo
      go_wp2_with fail
      obtain ⟨W0, hW0⟩ : ∃ W0 : World, W0 = wr.alloc (.cells #[.string p.c, .int .i64 p.k, .int .i64 p.f, .int .i64 p.u, .slice A1 p.ns.length d1] 32) := ⟨_, rfl⟩
      rw [← hW0]
      have HBW : Hid (Below wr.heap.size wr W0) := Lib.hid (by rw [hW0]; exact below_alloc11 _ _)
      rw [← hW0] at HBX HBO
      obtain ⟨T, f, t0, hT, ht0, hf, hback⟩ := class_of W0
      have k0 : ∀ t, (f t).cell? ⟨wr.heap.size, 0, none⟩ = some (.string p.c) := fun t => (HBX.out.next (hf t)).five.1
      have k1 : ∀ t, (f t).cell? ⟨wr.heap.size, 1, none⟩ = some (.int .i64 p.k) := fun t => (HBX.out.next (hf t)).five.2.1
      have k2 : ∀ t, (f t).cell? ⟨wr.heap.size, 2, none⟩ = some (.int .i64 p.f) := fun t => (HBX.out.next (hf t)).five.2.2.1
      have k3 : ∀ t, (f t).cell? ⟨wr.heap.size, 3, none⟩ = some (.int .i64 p.u) := fun t => (HBX.out.next (hf t)).five.2.2.2.1
      have k4 : ∀ t, (f t).cell? ⟨wr.heap.size, 4, none⟩ = some (.slice A1 p.ns.length d1) := fun t => (HBX.out.next (hf t)).five.2.2.2.2.1
      have HF := Lib.hid hf
      have HK := Lib.hid hback
      clear hf hback c0 c1 c2 c3 c4 hW0
      cases q
      · have HX := Lib.hid (reg_no (goodP_bad HP.out hq.symm))
        clear hq
        refine wp_region_class f t0 ht0 (by kernel_rfl) (by kernel_rfl) ?_
        clear ht0
        repeat (go_big_quiet_step (first | (go_at_call 12; exact Calls.class_of HF.out HK.out (CX.out _ (bstep9 HBW.out HBW.out.size (HF.out _))))))
        refine wpQuiet_nil ?_
        rintro w' ⟨t, rfl⟩
        have hbt := bstep9 HBO.out HBO.out.size (HF.out t)
        go_wp2_with fail
        go_ret
        exact ⟨ret_bool HX.out.symm, hbt⟩
      · have HQ := Lib.hid hq
        clear hq
        by_cases h0 : 0 < k
        · obtain ⟨q', A', d', hq', b', o', hA', _, hc'⟩ := HPREV.out h0
          obtain ⟨rfl, rfl⟩ : b = b' ∧ o = o' := by injection hA' with hA'; injection hA' with e1 e2; exact ⟨e1, e2⟩
          have m0 : ∀ t, (f t).cell? ⟨b, o + (k - 1) * 5, none⟩ = some (.string q'.c) := fun t => ((HF.out t).cell (p := ⟨b, o + (k - 1) * 5, none⟩) (Nat.lt_of_lt_of_le HBL.out HBW.out.size)).trans ((HBW.out.cell (p := ⟨b, o + (k - 1) * 5, none⟩) HBL.out).trans hc')
          have u3 : (0 : Int) < (k : Int) := by omega
          have u4 : (0 : Int) ≤ (k : Int) - 1 := by omega
          have u5 : (k : Int) - 1 < (n : Int) := by omega
          have u6 : ((k : Int) - 1).toNat = k - 1 := by omega
          have u7 : IntKind.i64.wrap ((k : Int) - 1) = (k : Int) - 1 := by rw [IntKind.wrap_i64]; omega
          have HQ' := Lib.hid hq'
          clear hA' hc' hq'
          rcases hv : ltB q'.c p.c with _ | _
          · have HX := Lib.hid (reg_no (goodP_ord HP.out h0 HQ'.out hv))
            rcases le_no hv with ⟨hl1, hl2⟩ | ⟨hl1, hl2⟩
            all_goals
              clear hv
              refine wp_region_class f t0 ht0 (by kernel_rfl) (by kernel_rfl) ?_
              clear ht0
              repeat (go_big_quiet_step (first | (go_at_call 12; exact Calls.class_of HF.out HK.out (CX.out _ (bstep9 HBW.out HBW.out.size (HF.out _))))))
              refine wpQuiet_nil ?_
              rintro w' ⟨t, rfl⟩
              have hbt := bstep9 HBO.out HBO.out.size (HF.out t)
              go_wp2_with fail
              go_ret
              exact ⟨ret_bool HX.out.symm, hbt⟩
          · have HG2 := Lib.hid (goodP_step HP.out HG.out HQ.out.symm (fun x _ hx => by rw [HQ'.out] at hx; obtain rfl := Option.some.inj hx; exact hv))
            obtain ⟨hl1, hl2⟩ := le_yes hv
            clear hv
            refine wp_region_class f t0 ht0 (by kernel_rfl) (by kernel_rfl) ?_
            clear ht0
            repeat (go_big_quiet_step (first | (go_at_call 12; exact Calls.class_of HF.out HK.out (CX.out _ (bstep9 HBW.out HBW.out.size (HF.out _))))))
            refine wpQuiet_nil ?_
            rintro w' ⟨t, rfl⟩
            have hbt := bstep9 HBO.out HBO.out.size (HF.out t)
            go_wp2_with fail
            go_roundw
            case rel => exact ⟨k + 1, by omega, by go_num, HG2, hbt⟩
            case measure => simp [intOf]; omega
        · obtain rfl : k = 0 := by omega
          have HG2 := Lib.hid (goodP_step HP.out HG.out HQ.out.symm (fun x hx => absurd hx (by omega)))
          refine wp_region_class f t0 ht0 (by kernel_rfl) (by kernel_rfl) ?_
          clear ht0
          repeat (go_big_quiet_step (first | (go_at_call 12; exact Calls.class_of HF.out HK.out (CX.out _ (bstep9 HBW.out HBW.out.size (HF.out _))))))
          refine wpQuiet_nil ?_
          rintro w' ⟨t, rfl⟩
          have hbt := bstep9 HBO.out HBO.out.size (HF.out t)
          go_wp2_with fail
          go_roundw
          case rel => exact ⟨0 + 1, by omega, by go_num, HG2, hbt⟩
          case measure => simp [intOf]; omega
    · have HG2 := Lib.hid (reg_yes (ps := ps) (by have := HN.out; omega) (goodP_end (k := k) (by have := HN.out; omega) HG.out))
      go_wp2_with fail
      go_ret
      exact ⟨ret_bool HG2.out.symm, hbw⟩
end Go.Proofs.YtkbkgbhnfopgnaaDoor
