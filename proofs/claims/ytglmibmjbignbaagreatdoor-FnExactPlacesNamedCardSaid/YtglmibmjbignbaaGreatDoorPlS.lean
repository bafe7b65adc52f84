/-
  The contracts of the reference's IsPlace, IsRegister, l11Find, l11Year, l11Code, l11Exists.
-/
import Derived.Test.YtglmibmjbignbaaGreatDoorMz16
import Derived.Test.YtglmibmjbignbaaGreatDoorMz17
namespace Go.Proofs.YtglmibmjbignbaaGreatDoor
set_option linter.unusedVariables false
open Go.RowKit

theorem wi_parts (f u : Int) (x : Nm) : (wiB f u x = true ∧ decide (x.f < f) = false ∧ decide (u < x.u) = false) ∨ (wiB f u x = false ∧ decide (x.f < f) = true) ∨ (wiB f u x = false ∧ decide (x.f < f) = false ∧ decide (u < x.u) = true) := by
  unfold wiB
  by_cases h1 : f ≤ x.f
  · by_cases h2 : x.u ≤ u
    · exact .inl ⟨by simp [h1, h2], decide_eq_false (by omega), decide_eq_false (by omega)⟩
    · exact .inr (.inr ⟨by simp [h2], decide_eq_false (by omega), decide_eq_true (by omega)⟩)
  · exact .inr (.inl ⟨by simp [h1], decide_eq_true (by omega)⟩)
theorem allW_step {f u : Int} {xs : List Nm} {k : Nat} {y : Nm} (h : xs[k]? = some y) (ha : (xs.take k).all (wiB f u) = true) (hc : wiB f u y = true) : (xs.take (k + 1)).all (wiB f u) = true := by
  rw [take_snoc9 h, List.all_append, ha]; simp [hc]
theorem allW_miss {f u : Int} {xs : List Nm} {k : Nat} {y : Nm} (h : xs[k]? = some y) (hc : wiB f u y = false) : xs.all (wiB f u) = false :=
  List.all_eq_false.2 ⟨y, List.mem_of_getElem? h, by simp [hc]⟩

set_option maxHeartbeats 4000000 in
set_option maxRecDepth 100000 in
theorem cIsPl_spec (p : Pl) (A : Option Addr) (d : Nat) (w : World) (hc : p.c.size ≤ maxLen) (hb : p.ns.length ≤ 1048576) (hz : Sz9 p.ns) (h : NmAt w w.heap.size A p.ns.length p.ns) :
    Calls Tryz.prog 26 #[plv11 p A d] w fun e w' => e = .returned (.bool (plB p)) ∧ Below w.heap.size w w' := by
  have hcs := pl_cases p
  obtain ⟨c, k, f, u, ns⟩ := p
  unfold plv11
  dsimp only at hc hb hz h hcs ⊢
  obtain ⟨b, hbb⟩ : ∃ b, b = plB ⟨c, k, f, u, ns⟩ := ⟨_, rfl⟩
  rw [← hbb] at hcs ⊢
  clear hbb
  have CW := Lib.hid (fun W => cIsWord_spec c W hc)
  have CI := Lib.hid (fun W => cIn_any k 0 19 W)
  have CV := Lib.hid (fun W => cIsSpan_spec f u W)
  have CN := Lib.hid (fun W (hW : Below w.heap.size w W) => cAreN_spec A ns.length d ns W hb hz (h.grow hW))
  have H := Lib.hid h
  clear h hz
  obtain ⟨n, hn⟩ : ∃ n, n = ns.length := ⟨_, rfl⟩
  rw [← hn] at hb CN H ⊢
  have HN := Lib.hid hn
  clear hn
  have HA := Lib.hid (below_alloc11 w (.cells #[.string c, .int .i64 k, .int .i64 f, .int .i64 u, .slice A n d] 29))
  have HX := Lib.hid (Bx.new w #[.string c, .int .i64 k, .int .i64 f, .int .i64 u, .slice A n d] 29)
  have key : ∀ (q : Bool), Hid (namesB ns = true → q = ns.all (wiB f u)) → (wordB c = true) → (decide (0 ≤ k) && decide (k ≤ 19)) = true → spB f u = true → namesB ns = true →
      Calls Tryz.prog 26 #[.agg #[.string c, .int .i64 k, .int .i64 f, .int .i64 u, .slice A n d]] w fun e w' => e = .returned (.bool q) ∧ Below w.heap.size w w' := by
    intro q HQ e1 e2 e4 e5
    rw [e1] at CW
    rw [e2] at CI
    rw [e4] at CV
    rw [e5] at CN
    have HQ2 := Lib.hid (HQ.out e5)
    clear e1 e2 e4 e5 HQ
    go_enter Tryz.func26, Tryz.ntmps26
    go_wp2_with fail
    refine (CW.out _).mono ?_
    rintro e w1 ⟨rfl, rfl⟩
    go_wp2_with fail
    refine (CI.out _).mono ?_
    rintro e w1 ⟨rfl, rfl⟩
    go_wp2_with fail
    refine (CV.out _).mono ?_
    rintro e w2 ⟨rfl, g2⟩
    obtain ⟨x0, x1, x2, x3, x4, _⟩ := (HX.out.next g2).five
    have hb2 := bstep9 HA.out HA.out.size g2
    have CN2 := Lib.hid (CN.out _ hb2)
    have HX2 := Lib.hid (HX.out.next g2)
    clear g2
    go_wp2_with fail
    refine CN2.out.mono ?_
    rintro e w3 ⟨rfl, g3⟩
    have hb3 := bstep9 hb2 hb2.size g3
    have HX3 := Lib.hid (HX2.out.next g3)
    have HB3 := Lib.hid hb3
    have HL3 := Lib.hid hb3.size
    clear g3 hb3 x0 x1 x2 x3 x4 HX2 CN2
    go_wp2_with fail
    go_loopw [3] (fun i wr => ∃ j : Nat, j ≤ n ∧ i = .int .i64 j ∧ Hid ((ns.take j).all (wiB f u) = true) ∧ Below w3.heap.size w3 wr) (fun i _ => n - (intOf i).toNat)
    case atStart => exact ⟨0, Nat.zero_le _, rfl, Lib.hid (by simp), Below.refl _ _⟩
    case round =>
      obtain ⟨j, hj, rfl, HA2, hbw⟩ := hrel
      have hbt := bstep9 HB3.out HL3.out hbw
      obtain ⟨x0, x1, x2, x3, x4, _⟩ := (HX3.out.next hbw).five
      by_cases hlt : j < n
      · obtain ⟨y, hy⟩ : ∃ y, ns[j]? = some y := ⟨ns[j]'(by have := HN.out; omega), List.getElem?_eq_getElem _⟩
        obtain ⟨b, o, rfl, hbl, c0, c1, c2, c3, c4⟩ := (H.out.below hbt (Nat.le_refl _)).row hy
        have HY := Lib.hid hy
        have u1 : (0 : Int) ≤ (j : Int) := Int.natCast_nonneg _
        have u2 : (j : Int) < (n : Int) := by omega
        clear hy
        rcases wi_parts f u y with ⟨hw, d1, d2⟩ | ⟨hw, d1⟩ | ⟨hw, d1, d2⟩
        · have HA3 := Lib.hid (allW_step HY.out HA2.out hw)
          clear hw
          go_wp2_with fail
          go_quiet (fail)
          go_wp2_with fail
          go_roundw
          case rel => exact ⟨j + 1, by omega, by go_num, HA3, below_drN_r hbw _⟩
          case measure => simp [intOf]; omega
        · have HM := Lib.hid (allW_miss HY.out hw)
          clear hw
          go_wp2_with fail
          go_quiet (fail)
          go_wp2_with fail
          go_ret
          exact ⟨ret_bool (by rw [HQ2.out, HM.out]), below_drN_r hbt _⟩
        · have HM := Lib.hid (allW_miss HY.out hw)
          clear hw
          go_wp2_with fail
          go_quiet (fail)
          go_wp2_with fail
          go_ret
          exact ⟨ret_bool (by rw [HQ2.out, HM.out]), below_drN_r hbt _⟩
      · have HM : Hid (ns.all (wiB f u) = true) := Lib.hid (by have := HA2.out; rwa [List.take_of_length_le (by have := HN.out; omega)] at this)
        go_wp2_with fail
        go_ret
        exact ⟨ret_bool (by rw [HQ2.out, HM.out]), hbt⟩
  rcases hcs with ⟨rfl, e1, e2, e3, e4, e5, e6⟩ | ⟨rfl, e1 | ⟨e1, e2 | ⟨e2, e3, e4 | ⟨e4, e5 | ⟨e5, e6⟩⟩⟩⟩⟩
  · exact key true (Lib.hid fun _ => e6.symm) e1 (by simp [e2, e3]) e4 e5
  · rw [e1] at CW
    clear e1 key
    go_enter Tryz.func26, Tryz.ntmps26
    go_wp2_with fail
    refine (CW.out _).mono ?_
    rintro e w1 ⟨rfl, rfl⟩
    go_wp2_with fail
    go_ret
    exact ⟨rfl, HA.out⟩
  · rw [e1] at CW
    rw [e2] at CI
    clear e1 e2 key
    go_enter Tryz.func26, Tryz.ntmps26
    go_wp2_with fail
    refine (CW.out _).mono ?_
    rintro e w1 ⟨rfl, rfl⟩
    go_wp2_with fail
    refine (CI.out _).mono ?_
    rintro e w1 ⟨rfl, rfl⟩
    go_wp2_with fail
    go_ret
    exact ⟨rfl, HA.out⟩
  · have e7 : (decide (0 ≤ k) && decide (k ≤ 19)) = true := by simp [e2, e3]
    rw [e1] at CW
    rw [e7] at CI
    rw [e4] at CV
    clear e1 e2 e3 e4 e7 key
    go_enter Tryz.func26, Tryz.ntmps26
    go_wp2_with fail
    refine (CW.out _).mono ?_
    rintro e w1 ⟨rfl, rfl⟩
    go_wp2_with fail
    refine (CI.out _).mono ?_
    rintro e w1 ⟨rfl, rfl⟩
    go_wp2_with fail
    refine (CV.out _).mono ?_
    rintro e w2 ⟨rfl, g2⟩
    have hb2 := bstep9 HA.out HA.out.size g2
    clear g2
    go_wp2_with fail
    go_ret
    exact ⟨rfl, hb2⟩
  · have e7 : (decide (0 ≤ k) && decide (k ≤ 19)) = true := by simp [e2, e3]
    rw [e1] at CW
    rw [e7] at CI
    rw [e4] at CV
    rw [e5] at CN
    clear e1 e2 e3 e4 e5 e7 key
    go_enter Tryz.func26, Tryz.ntmps26
    go_wp2_with fail
    refine (CW.out _).mono ?_
    rintro e w1 ⟨rfl, rfl⟩
    go_wp2_with fail
    refine (CI.out _).mono ?_
    rintro e w1 ⟨rfl, rfl⟩
    go_wp2_with fail
    refine (CV.out _).mono ?_
    rintro e w2 ⟨rfl, g2⟩
    obtain ⟨x0, x1, x2, x3, x4, _⟩ := (HX.out.next g2).five
    have hb2 := bstep9 HA.out HA.out.size g2
    have CN2 := Lib.hid (CN.out _ hb2)
    clear g2
    go_wp2_with fail
    refine CN2.out.mono ?_
    rintro e w3 ⟨rfl, g3⟩
    have hb3 := bstep9 hb2 hb2.size g3
    clear g3 x0 x1 x2 x3 x4
    go_wp2_with fail
    go_ret
    exact ⟨rfl, hb3⟩
  · exact key false (Lib.hid fun _ => e6.symm) e1 (by simp [e2, e3]) e4 e5

set_option maxHeartbeats 4000000 in
set_option maxRecDepth 100000 in
theorem cIsReg_spec (A : Option Addr) (n c : Nat) (ps : List Pl) (w : World) (hb : n ≤ 1048576) (hz : Sz11 ps) (h : PlAt w w.heap.size A n ps) :
    Calls Tryz.prog 24 #[.slice A n c] w fun e w' => e = .returned (.bool (regB ps)) ∧ Below w.heap.size w w' := by
  have HN := Lib.hid h.1
  have H := Lib.hid h
  have CC := Lib.hid (fun (p : Pl) (hp : p ∈ ps) A d W (hn : NmAt W W.heap.size A p.ns.length p.ns) =>
    cIsPl_spec p A d W (by have := (hz p hp).1; unfold maxLen; omega) (hz p hp).2.1 (hz p hp).2.2 hn)
  clear h hz
  go_enter Tryz.func24, Tryz.ntmps24
  go_wp2_with fail
  go_loopw [3] (fun i wr => ∃ k : Nat, k ≤ n ∧ i = .int .i64 k ∧ Hid (GoodP (ps.take k)) ∧ Below w.heap.size w wr) (fun i _ => n - (intOf i).toNat)
  case atStart => exact ⟨0, Nat.zero_le _, rfl, Lib.hid (goodP_zero ps), Below.refl _ _⟩
  case round =>
    obtain ⟨k, hk, rfl, HG, hbw⟩ := hrel
    by_cases hlt : k < n
    · obtain ⟨p, hp⟩ : ∃ p, ps[k]? = some p := ⟨ps[k]'(by have := HN.out; omega), List.getElem?_eq_getElem _⟩
      have hrow := (H.out.below hbw (Nat.le_refl _)).row hp
      have HPREV : Hid (0 < k → ∃ q A' d', ps[k - 1]? = some q ∧ ∃ b o, A = some ⟨b, o, none⟩ ∧ b < w.heap.size ∧ wr.cell? ⟨b, o + (k - 1) * 5, none⟩ = some (.string q.c)) := Lib.hid (fun h0 => by
        obtain ⟨q, hq⟩ : ∃ q, ps[k - 1]? = some q := ⟨ps[k - 1]'(by have := HN.out; omega), List.getElem?_eq_getElem _⟩
        obtain ⟨b, o, h1, h2, A', d', h3, _⟩ := (H.out.below hbw (Nat.le_refl _)).row hq
        exact ⟨q, A', d', hq, b, o, h1, h2, h3⟩)
      obtain ⟨b, o, rfl, hbl, A1, d1, c0, c1, c2, c3, c4, hnm, hd⟩ := hrow
      have CX := Lib.hid (fun W (hW : Below wr.heap.size wr W) => CC.out p (List.mem_of_getElem? hp) A1 d1 W ((hnm.more hbw.size).grow hW))
      have HP := Lib.hid hp
      have HB := Lib.hid hbw
      have HBL := Lib.hid (Nat.lt_of_lt_of_le hbl hbw.size)
      have u1 : (0 : Int) ≤ (k : Int) := Int.natCast_nonneg _
      have u2 : (k : Int) < (n : Int) := by omega
      obtain ⟨q, hq⟩ : ∃ q, q = plB p := ⟨_, rfl⟩
      rw [← hq] at CX
      clear hp hnm
      go_wp2_with fail
      obtain ⟨T, f, t0, hT, ht0, hf, hback⟩ := class_of wr
      have k0 : ∀ t, (f t).cell? ⟨b, o + k * 5, none⟩ = some (.string p.c) := fun t => ((hf t).cell (p := ⟨b, o + k * 5, none⟩) HBL.out).trans c0
      have k1 : ∀ t, (f t).cell? ⟨b, o + k * 5 + 1, none⟩ = some (.int .i64 p.k) := fun t => ((hf t).cell (p := ⟨b, o + k * 5 + 1, none⟩) HBL.out).trans c1
      have k2 : ∀ t, (f t).cell? ⟨b, o + k * 5 + 2, none⟩ = some (.int .i64 p.f) := fun t => ((hf t).cell (p := ⟨b, o + k * 5 + 2, none⟩) HBL.out).trans c2
      have k3 : ∀ t, (f t).cell? ⟨b, o + k * 5 + 3, none⟩ = some (.int .i64 p.u) := fun t => ((hf t).cell (p := ⟨b, o + k * 5 + 3, none⟩) HBL.out).trans c3
      have k4 : ∀ t, (f t).cell? ⟨b, o + k * 5 + 4, none⟩ = some (.slice A1 p.ns.length d1) := fun t => ((hf t).cell (p := ⟨b, o + k * 5 + 4, none⟩) HBL.out).trans c4
      have HF := Lib.hid hf
      have HK := Lib.hid hback
      clear hf hback c0 c1 c2 c3 c4 hbw
      cases q
      · have HX := Lib.hid (reg_no (goodP_bad HP.out hq.symm))
        clear hq
        refine wp_region_class f t0 ht0 (by kernel_rfl) (by kernel_rfl) ?_
        clear ht0
        repeat (go_big_quiet_step (first | (go_at_call 26; exact Calls.class_of HF.out HK.out (CX.out _ (HF.out _)))))
        refine wpQuiet_nil ?_
        rintro w' ⟨t, rfl⟩
        have hbt := bstep9 HB.out HB.out.size (HF.out t)
        go_wp2_with fail
        go_ret
        exact ⟨ret_bool HX.out.symm, hbt⟩
      · have HQ := Lib.hid hq
        clear hq
        by_cases h0 : 0 < k
        · obtain ⟨q', A', d', hq', b', o', hA', _, hc'⟩ := HPREV.out h0
          obtain ⟨rfl, rfl⟩ : b = b' ∧ o = o' := by injection hA' with hA'; injection hA' with e1 e2; exact ⟨e1, e2⟩
          have m0 : ∀ t, (f t).cell? ⟨b, o + (k - 1) * 5, none⟩ = some (.string q'.c) := fun t => ((HF.out t).cell (p := ⟨b, o + (k - 1) * 5, none⟩) HBL.out).trans hc'
          have u3 : (0 : Int) < (k : Int) := by omega
          have u4 : (0 : Int) ≤ (k : Int) - 1 := by omega
          have u5 : (k : Int) - 1 < (n : Int) := by omega
          have u6 : ((k : Int) - 1).toNat = k - 1 := by omega
          have u7 : IntKind.i64.wrap ((k : Int) - 1) = (k : Int) - 1 := by rw [IntKind.wrap_i64]; omega
          have HQ' := Lib.hid hq'
          obtain ⟨v, hv⟩ : ∃ v, v = ltB q'.c p.c := ⟨_, rfl⟩
          have hless : Op.bytesLess q'.c.toList p.c.toList = v := by rw [bytesLess11]; exact hv.symm
          have HV := Lib.hid hv
          clear hq' hA' hc' hv
          refine wp_region_class f t0 ht0 (by kernel_rfl) (by kernel_rfl) ?_
          clear ht0
          repeat (go_big_quiet_step (first | (go_at_call 26; exact Calls.class_of HF.out HK.out (CX.out _ (HF.out _)))))
          refine wpQuiet_nil ?_
          rintro w' ⟨t, rfl⟩
          have hbt := bstep9 HB.out HB.out.size (HF.out t)
          cases v
          · have HX := Lib.hid (reg_no (goodP_ord HP.out h0 HQ'.out HV.out.symm))
            go_wp2_with fail
            go_ret
            exact ⟨ret_bool HX.out.symm, hbt⟩
          · have HG2 := Lib.hid (goodP_step HP.out HG.out HQ.out.symm (fun x _ hx => by rw [HQ'.out] at hx; obtain rfl := Option.some.inj hx; exact HV.out.symm))
            go_wp2_with fail
            go_roundw
            case rel => exact ⟨k + 1, by omega, by go_num, HG2, hbt⟩
            case measure => simp [intOf]; omega
        · have u3 : ¬ (0 : Int) < (k : Int) := by omega
          have HG2 := Lib.hid (goodP_step HP.out HG.out HQ.out.symm (fun x hx => absurd hx h0))
          refine wp_region_class f t0 ht0 (by kernel_rfl) (by kernel_rfl) ?_
          clear ht0
          repeat (go_big_quiet_step (first | (go_at_call 26; exact Calls.class_of HF.out HK.out (CX.out _ (HF.out _)))))
          refine wpQuiet_nil ?_
          rintro w' ⟨t, rfl⟩
          have hbt := bstep9 HB.out HB.out.size (HF.out t)
          go_wp2_with fail
          go_roundw
          case rel => exact ⟨k + 1, by omega, by go_num, HG2, hbt⟩
          case measure => simp [intOf]; omega
    · have HG2 := Lib.hid (reg_sum n HN.out (goodP_end (k := k) (by have := HN.out; omega) HG.out))
      go_wp2_with fail
      go_ret
      exact ⟨ret_bool HG2.out.symm, hbw⟩
end Go.Proofs.YtglmibmjbignbaaGreatDoor
