/-
  The contract of impl.HomonymsIn.
-/
import Derived.Test.YtglmibmjbignbaaGreatDoorMz26
import Derived.Test.YtglmibmjbignbaaGreatDoorMz24
import Derived.Test.YtglmibmjbignbaaGreatDoorInsS
import Derived.Test.YtglmibmjbignbaaGreatDoorMz4
namespace Go.Proofs.YtglmibmjbignbaaGreatDoor
section
set_option linter.unusedVariables false
open Go.RowKit

theorem row_news {w : World} {B m : Nat} {A : Option Addr} {zs : List ByteArray} (h : TextAt w B A m zs) : (A = none → m = 0) ∧ ∀ ad, A = some ad → ∀ j u, (strV zs)[j]? = some u → w.cell? (ad.add j) = some u := by
  rcases Nat.eq_zero_or_pos m with rfl | hp
  · obtain rfl : zs = [] := List.eq_nil_of_length_eq_zero h.1.symm
    exact ⟨fun _ => rfl, fun ad _ j u hj => by simp [strV] at hj⟩
  · obtain ⟨b, o, rfl, hb, hc⟩ := h.2 hp
    refine ⟨(fun e => by cases e), fun ad e j u hj => ?_⟩
    obtain rfl := Option.some.inj e
    unfold strV at hj
    rw [List.getElem?_map] at hj
    cases hz : zs[j]? with
    | none => rw [hz] at hj; cases hj
    | some z =>
      rw [hz] at hj
      obtain rfl := Option.some.inj hj
      rw [add_plain']
      exact hc j z hz
theorem own_shape {w : World} {b n : Nat} {v : Value} {t : TypeId} {s : Nat} {xs : List Value} (h : w.ownsRow b t s v n xs) : ∃ A c, v = .slice A n c := by
  rcases h.2 with ⟨rfl, rfl⟩ | ⟨g, cap, cur, rfl, _⟩
  · exact ⟨_, _, rfl⟩
  · exact ⟨_, _, rfl⟩
theorem strV_appH (xs ys : List ByteArray) : strV xs ++ strV ys = strV (xs ++ ys) := by simp [strV]
theorem allX_take {ps : List Pl} {y : Int} (hr : regB ps = true) (k : Nat) : (allX (ps.take k) y).length ≤ 120 := by
  have h1 := allX_len (ps.take k) y
  have h2 := sum_le (ps.take k) 12 (fun p hp => (names_of (pl_parts (reg_mem hr (List.mem_of_mem_take hp))).2.2.2.2.1).1)
  have h3 := (reg_of hr).1
  have h4 := List.length_take_le k ps
  have h5 : (ps.take k).length ≤ ps.length := by rw [List.length_take]; omega
  omega
set_option maxHeartbeats 4000000 in
set_option maxRecDepth 100000 in
theorem cHm_impl (A : Option Addr) (n c : Nat) (ps : List Pl) (y : Int) (w : World) (hb : n ≤ 1048576) (hz : Sz11 ps) (h : PlAt w w.heap.size A n ps) (hsh : w.ShapedOpen Tryz.prog) (her : Er6 w) :
    Calls Tryz.prog 19 #[.slice A n c, .int .i64 y] w (OutT11 (hmZ ps y) (pyC ps y) w) := by
  obtain ⟨i0, hi0, hz0, hz1, hz2⟩ := info_parts info_strW
  have CK := Lib.hid (cChkReg A n c ps y w hb hz h hsh her)
  have H := Lib.hid h
  have HN := Lib.hid h.1
  clear h hsh her
  obtain ⟨q, hq⟩ : ∃ q, q = pyC ps y := ⟨_, rfl⟩
  by_cases h0 : q = 0
  rotate_left
  · rw [hmZ_no (by rw [← hq]; exact h0), ← hq]
    rw [← hq] at CK
    have hd : (q != 0) = true := by simp [h0]
    clear hq h0 hz
    go_enter Tryz.func19, Tryz.ntmps19
    go_wp2_with fail
    refine CK.out.mono ?_
    rintro e w1 ⟨rfl, g1⟩
    go_wp2_with fail
    go_ret2
    exact ⟨none, 0, 0, rfl, World.ownsRow_nil _ _ _ _, g1⟩
  subst h0
  rw [hmZ_ok hq.symm, ← hq]
  rw [← hq] at CK
  have hreg := (pyC_zero hq.symm).1
  have HT := Lib.hid (fun k => allX_take (y := y) hreg k)
  have HPN : Hid (∀ p ∈ ps, p.ns.length ≤ 1048576) := Lib.hid (fun p hp => (hz p hp).2.1)
  have CE := Lib.hid (fun p A d W => cEntry p A d W)
  have CT := Lib.hid (fun p (hp : p ∈ ps) A d W (hn : NmAt W W.heap.size A p.ns.length p.ns) => cTexts A p.ns.length d p.ns y W (HPN.out p hp) hn)
  clear hq hreg hz
  go_enter Tryz.func19, Tryz.ntmps19
  go_wp2_with fail
  refine CK.out.mono ?_
  rintro e w1 ⟨rfl, g1⟩
  have HG1 := Lib.hid g1
  clear g1 CK
  go_wp2_with fail
  go_loopw [7, 20] (fun o i wr => ∃ (k m d : Nat) (B : Option Addr), k ≤ n ∧ i = .int .i64 k ∧ o = .slice B m d ∧ Hid (wr.ownsRow w.heap.size 9 1 (.slice B m d) m (strV (allX (ps.take k) y))) ∧ Below w.heap.size w wr) (fun _ i _ => n - (intOf i).toNat)
  case atStart => exact ⟨0, 0, 0, none, Nat.zero_le _, rfl, rfl, Lib.hid (World.ownsRow_nil _ _ _ _), HG1.out⟩
  case round =>
    obtain ⟨k, m, d, B, hk, rfl, rfl, HO, hbw⟩ := hrel
    by_cases hlt : k < n
    · obtain ⟨p, hp⟩ : ∃ p, ps[k]? = some p := ⟨ps[k]'(by have := HN.out; omega), List.getElem?_eq_getElem _⟩
      obtain ⟨b, o, rfl, hbl, A1, d1, c0, c1, c2, c3, c4, hnm, hd1⟩ := (H.out.below hbw (Nat.le_refl _)).row hp
      obtain ⟨W0, hW0⟩ : ∃ W0 : World, W0 = wr.alloc (.cells #[.string p.c, .int .i64 p.k, .int .i64 p.f, .int .i64 p.u, .slice A1 p.ns.length d1] 29) := ⟨_, rfl⟩
      have HB0 : Hid (Below wr.heap.size wr W0) := Lib.hid (by rw [hW0]; exact below_alloc11 _ _)
      have HW0 := Lib.hid hW0
      have CX := Lib.hid (CE.out p A1 d1 W0)
      unfold plv11 enA at CX
      have HNM := Lib.hid (hnm.more hbw.size)
      have HST := Lib.hid (allX_step (y := y) hp)
      have CT1 := Lib.hid (CT.out p (List.mem_of_getElem? hp) A1 d1)
      have HL1 := Lib.hid (setT_len (txU p.ns y))
      have HTK := Lib.hid (HT.out (k + 1))
      have HTM := Lib.hid (HT.out k)
      have HML : Hid (m = (allX (ps.take k) y).length) := Lib.hid (by have h1 := HO.out.1; rw [strV_len] at h1; omega)
      have u1 : (0 : Int) ≤ (k : Int) := Int.natCast_nonneg _
      have u2 : (k : Int) < (n : Int) := by omega
      clear hp hnm hd1 hW0
      go_wp2_with fail
      rw [← HW0.out]
      refine CX.out.mono ?_
      rintro e w2 ⟨rfl, g2⟩
      have g2' := bstep9 HB0.out HB0.out.size g2
      have hb2 := bstep9 hbw hbw.size g2'
      have HO2 := Lib.hid (keptW HO.out g2')
      have CT2 := Lib.hid (CT1.out w2 (HNM.out.grow g2'))
      have hfd : ∀ W : World, (Instr.field 87 (.agg #[.slice A1 p.ns.length d1, .string p.c, .int .i64 p.k, .int .i64 p.f, .int .i64 p.u]) 0).run Tryz.prog W = .ok (.slice A1 p.ns.length d1) W := fun _ => rfl
      clear g2 g2' c0 c1 c2 c3 c4
      go_wp2_with fail
      refine CT2.out.mono ?_
      rintro e w3 ⟨B2, m2, d2, rfl, hown2, g3⟩
      have hb3 := bstep9 hb2 hb2.size g3
      have HO3 := Lib.hid (keptW HO2.out g3)
      have HM2 : Hid (m2 = (setT (txU p.ns y)).length) := Lib.hid (by have h1 := hown2.1; rw [strV_len] at h1; omega)
      have HNW := Lib.hid (row_news (own_text hown2))
      have HSV : Hid ((strV (setT (txU p.ns y))).length = m2 * 1) := Lib.hid (by rw [strV_len]; have := HM2.out; omega)
      have HSUM : Hid (m + m2 ≤ 120) := Lib.hid (by have h1 := HTK.out; rw [HST.out, List.length_append] at h1; have := HML.out; have := HM2.out; omega)
      have z1 : m + m2 ≤ maxLen := by unfold maxLen; have := HSUM.out; omega
      have z2 : (m + m2) * 16 ≤ 140737488355328 := by have := HSUM.out; omega
      have HB3 := Lib.hid hb3
      clear hown2 g3 hb3
      go_wp2_with (at_builtin; (refine wpList_append_x rfl _ _ 38 rfl w.heap.size 9 i0 _ 1 16 Tryz.underlying38 hi0 hz0 hz1 hz2 rfl (by decide) _ m _ rfl HO3.out B2 m2 d2 (strV (setT (txU p.ns y))) rfl HNW.out.1 HSV.out HNW.out.2 (strV_one _) z1 z2 HB3.out.size ?_))
      intro v' w4 hown4 hgrow4 _
      rw [strV_appH, ← HST.out] at hown4
      obtain ⟨B4, d4, rfl⟩ := own_shape hown4
      have hb4 := HB3.out.grown hgrow4 HB3.out.size (fun x hx => (HO3.out.lt x hx).1)
      have HO4 := Lib.hid hown4
      clear hown4 hgrow4
      go_wp2_with fail
      go_roundw
      case rel => exact ⟨k + 1, m + m2, d4, B4, by omega, by go_num, rfl, HO4, hb4⟩
      case measure => simp [intOf]; omega
    · have HF : Hid (wr.ownsRow w.heap.size 9 1 (.slice B m d) m (strV (allX ps y))) := Lib.hid (by have := HO.out; rwa [List.take_of_length_le (by have := HN.out; omega)] at this)
      have hm : m ≤ 120 := by have h1 := HO.out.1; rw [strV_len] at h1; have := HT.out k; omega
      have CS := Lib.hid (tSortT B m d w.heap.size (allX ps y) wr (by omega) HF.out)
      clear HO
      go_wp2_with fail
      refine CS.out.mono ?_
      rintro e w2 ⟨rfl, hown2, hg2⟩
      have hb2 := grown_own11 hbw hg2 (fun k hk => (HF.out.lt k hk).1)
      have hown2' : w2.ownsRow w.heap.size 9 1 (.slice B m d) m (strV (srtX ps y)) := hown2
      have HS := Lib.hid (own_text hown2')
      have HSE : Hid (ofL (Lib.compact (toL (dupT (srtX ps y)))) = setT (homL ps y)) := Lib.hid (hom_set ps y)
      have HB2 := Lib.hid hb2
      clear hown2 hown2' hg2 hb2
      generalize srtX ps y = T at HS HSE
      have HTL := Lib.hid HS.out.1
      go_wp2_with fail
      go_loopw [10, 11] (fun o i wr => ∃ (k m2 d2 : Nat) (B2 : Option Addr), i = .int .i64 ((k : Int) + 1) ∧ o = .slice B2 m2 d2 ∧ Hid (k ≤ m) ∧ Hid (m2 ≤ k) ∧ Hid (wr.ownsRow w2.heap.size 9 1 (.slice B2 m2 d2) m2 (strV (dupT (T.take (k + 1))))) ∧ Below w2.heap.size w2 wr) (fun _ i _ => m + 1 - (intOf i).toNat)
      case atStart => exact ⟨0, 0, 0, none, rfl, rfl, Lib.hid (Nat.zero_le _), Lib.hid (Nat.le_refl _), Lib.hid (by rw [dup_one]; exact World.ownsRow_nil _ _ _ _), Below.refl _ _⟩
      case round =>
        rename World => wv
        obtain ⟨k, m2, d2, B2, rfl, rfl, HK, HM, HO, hbv⟩ := hrel
        by_cases hlt2 : k + 1 < m
        · obtain ⟨a, ha⟩ : ∃ p, T[k]? = some p := ⟨T[k]'(by have := HTL.out; omega), List.getElem?_eq_getElem _⟩
          obtain ⟨bb, hbb⟩ : ∃ p, T[k + 1]? = some p := ⟨T[k + 1]'(by have := HTL.out; omega), List.getElem?_eq_getElem _⟩
          obtain ⟨g, o, rfl, hgl, e0⟩ := (HS.out.below hbv (Nat.le_refl _)).row2 ha
          obtain ⟨g', o', hA, _, e1⟩ := (HS.out.below hbv (Nat.le_refl _)).row2 hbb
          obtain ⟨rfl, rfl⟩ : g = g' ∧ o = o' := by injection hA with hA; injection hA with e1 e2; exact ⟨e1, e2⟩
          have HSTP := Lib.hid (dup_step ha hbb)
          have u1 : (0 : Int) ≤ (k : Int) := Int.natCast_nonneg _
          have u2 : (k : Int) < (m : Int) := by omega
          have u3 : (0 : Int) ≤ (k : Int) + 1 := by omega
          have u4 : (k : Int) + 1 < (m : Int) := by omega
          have u5 : (k : Int) + 1 - 1 = (k : Int) := by omega
          have u6 : ((k : Int) + 1).toNat = k + 1 := by omega
          clear ha hbb hA
          by_cases e : bb = a
          · have hd : (bb.toList == a.toList) = true := by rw [toList_beq]; exact decide_eq_true e
            rw [if_pos e] at HSTP
            have hmk := HM.out
            have hown := HO.out
            have HB := Lib.hid hbv
            clear e
            go_wp2_with fail
            go_quiet (fail)
            have hown9 : (wv.drewN nq).ownsRow w2.heap.size 9 1 (.slice B2 m2 d2) m2 (strV (dupT (T.take (k + 1)))) := hown
            have hbt : Below w2.heap.size w2 (wv.drewN nq) := below_drN_r HB.out _
            have hk9 := HK.out
            go_wp2_with (at_builtin; refine wpList_append_own _ rfl _ _ 38 rfl w2.heap.size 9 i0 _ 1 16 Tryz.underlying38 hi0 hz0 hz1 hz2 rfl (by decide) _ _ _ rfl (hown9.alloc _) ⟨(wv.drewN nq).heap.size, 0, none⟩ 1 1 [.string bb] rfl rfl ?d1 ?d2 ?d3 ?d4 ?d5 ?_)
            case d1 => exact one_cell' _ _ _ (new_one _ _ _)
            case d2 => intro u hu; simp at hu; subst hu; rfl
            case d3 => unfold maxLen; omega
            case d4 => omega
            case d5 => have := HB.out.size; simp; omega
            intro v' w4 hown4 hgrow4 _
            rw [strV_snocW, ← HSTP.out] at hown4
            have hb4 : Below w2.heap.size w2 w4 := (hbt.alloc hbt.size _).grown hgrow4 (by have := HB.out.size; simp; omega) (fun x hx => (hown9.lt x hx).1)
            obtain ⟨g4, c4, rfl, _, _⟩ := World.ownsRow.form hown4 (by omega)
            have HO4 := Lib.hid hown4
            clear hown4 hown9 hown hgrow4
            go_wp2_with fail
            go_roundw
            case rel => exact ⟨k + 1, m2 + 1, c4, some ⟨g4, 0, none⟩, by go_num, rfl, Lib.hid (by omega), Lib.hid (by omega), HO4, hb4⟩
            case measure => simp [intOf]; omega
          · have hd : (bb.toList == a.toList) = false := by rw [toList_beq]; exact decide_eq_false e
            rw [if_neg e, List.append_nil] at HSTP
            have HO2 : Hid (wv.ownsRow w2.heap.size 9 1 (.slice B2 m2 d2) m2 (strV (dupT (T.take (k + 1 + 1))))) := Lib.hid (by rw [show k + 1 + 1 = k + 2 from rfl, HSTP.out]; exact HO.out)
            clear e
            go_wp2_with fail
            go_quiet (fail)
            go_wp2_with fail
            go_roundw
            case rel => exact ⟨k + 1, m2, d2, B2, by go_num, rfl, Lib.hid (by omega), Lib.hid (by have := HM.out; omega), HO2, by first | exact hbv | exact below_drN_r hbv _⟩
            case measure => simp [intOf]; omega
        · have HD : Hid (wv.ownsRow w2.heap.size 9 1 (.slice B2 m2 d2) m2 (strV (dupT T))) := Lib.hid (by have h1 := HO.out; rwa [List.take_of_length_le (by have := HTL.out; omega)] at h1)
          have hm2 : m2 ≤ 1048576 := by have := HM.out; have := HK.out; omega
          have CC := Lib.hid (tCompT B2 m2 d2 w2.heap.size (dupT T) wv hm2 HD.out)
          go_wp2_with fail
          refine CC.out.mono ?_
          rintro e w5 ⟨m5, rfl, hown5, hg5⟩
          rw [HSE.out] at hown5
          have hb5 := grown_own11 hbv hg5 (fun k hk => (HD.out.lt k hk).1)
          have HO5 := Lib.hid (World.ownsRow.mono hown5 HB2.out.size)
          have hbt := bstep9 HB2.out HB2.out.size hb5
          clear hg5 hown5 hb5
          go_wp2_with fail
          go_ret2
          exact ⟨B2, m5, d2, rfl, HO5.out, hbt⟩
end
section
set_option linter.unusedVariables false
open Go.RowKit

def nmT (ps : List Pl) : List ByteArray := (ps.flatMap (·.ns)).map Nm.t
theorem nmT_step {ps : List Pl} {k : Nat} {p : Pl} (h : ps[k]? = some p) : nmT (ps.take (k + 1)) = nmT (ps.take k) ++ p.ns.map Nm.t := by
  rw [take_snocP h]; unfold nmT; rw [List.flatMap_append, List.map_append]; simp
/-- The texts of a list that name more than one place. -/
def hq (ps : List Pl) (y : Int) (l : List ByteArray) : List ByteArray := l.filter fun x => decide (1 < cntX ps y x)
theorem hq_yes {ps : List Pl} {y : Int} {a : List ByteArray} {xs : List Nm} {k : Nat} {x : Nm} (h : xs[k]? = some x) (hc : 1 < cntX ps y x.t) : hq ps y (a ++ (xs.take (k + 1)).map Nm.t) = hq ps y (a ++ (xs.take k).map Nm.t) ++ [x.t] := by
  rw [take_snoc9 h, List.map_append, ← List.append_assoc]; unfold hq; rw [List.filter_append]; simp [hc]
theorem hq_no {ps : List Pl} {y : Int} {a : List ByteArray} {xs : List Nm} {k : Nat} {x : Nm} (h : xs[k]? = some x) (hc : ¬ 1 < cntX ps y x.t) : hq ps y (a ++ (xs.take (k + 1)).map Nm.t) = hq ps y (a ++ (xs.take k).map Nm.t) := by
  rw [take_snoc9 h, List.map_append, ← List.append_assoc]; unfold hq; rw [List.filter_append]; simp [hc]
theorem cntX_none (ps : List Pl) (y : Int) (x : ByteArray) : cntX (ps.take 0) y x = 0 := by simp [cntX]
set_option maxHeartbeats 8000000 in
set_option maxRecDepth 100000 in
theorem cHm_spec (A : Option Addr) (n c : Nat) (ps : List Pl) (y : Int) (w : World) (hb : n ≤ 1048576) (hz : Sz11 ps) (h : PlAt w w.heap.size A n ps) :
    Calls Tryz.prog 20 #[.slice A n c, .int .i64 y] w (OutT11 (hmZ ps y) (pyC ps y) w) := by
  have CK := Lib.hid (cL11Year A n c ps y w hb hz h)
  have H := Lib.hid h
  have HN := Lib.hid h.1
  clear h
  obtain ⟨q, hq0⟩ : ∃ q, q = pyC ps y := ⟨_, rfl⟩
  by_cases h0 : q = 0
  rotate_left
  · rw [hmZ_no (by rw [← hq0]; exact h0), ← hq0]
    rw [← hq0] at CK
    have hd : (q != 0) = true := by simp [h0]
    clear hq0 h0 hz
    go_enter Tryz.func20, Tryz.ntmps20
    go_wp2_with fail
    refine CK.out.mono ?_
    rintro e w1 ⟨rfl, g1⟩
    go_wp2_with fail
    go_ret2
    exact ⟨none, 0, 0, rfl, World.ownsRow_nil _ _ _ _, g1⟩
  subst h0
  rw [hmZ_ok hq0.symm, ← hq0]
  rw [← hq0] at CK
  have hreg := (pyC_zero hq0.symm).1
  have HL12 : Hid (∀ p ∈ ps, p.ns.length ≤ 12) := Lib.hid (fun p hp => (names_of (pl_parts (reg_mem hreg hp)).2.2.2.2.1).1)
  have HN10 := Lib.hid (reg_of hreg).1
  have CE := Lib.hid (fun t p (hp : p ∈ ps) A d W (hn : NmAt W W.heap.size A p.ns.length p.ns) => cL11Has p A d t y W (hz p hp).2.1 hn)
  clear hq0 hreg hz
  go_enter Tryz.func20, Tryz.ntmps20
  go_wp2_with fail
  refine CK.out.mono ?_
  rintro e w1 ⟨rfl, g1⟩
  have HO0 := Lib.hid (World.ownsRow_lit (e := 9) (base := w.heap.size) (size := 1) w1 #[] 0 g1.size (by decide) rfl)
  have hb1a := g1.alloc g1.size (.cells #[] 9)
  clear g1 CK
  go_wp2_with fail
  go_loopw [7, 8] (fun o i wr => ∃ (k g m d : Nat) (zs : List ByteArray), k ≤ n ∧ i = .int .i64 k ∧ o = .slice (some ⟨g, 0, none⟩) m d ∧ Hid (m ≤ 12 * k) ∧ Hid (RowT wr w.heap.size g m d zs) ∧ Hid (IsSetT zs (hq ps y (nmT (ps.take k)))) ∧ Below w.heap.size w wr) (fun _ i _ => n - (intOf i).toNat)
  case atStart => exact ⟨0, w1.heap.size, 0, 0, [], Nat.zero_le _, rfl, rfl, Lib.hid (Nat.le_refl _), HO0, Lib.hid ⟨List.Pairwise.nil, by simp [hq, nmT]⟩, hb1a⟩
  case round =>
    rename World => wo
    clear HO0 hb1a
    obtain ⟨i, g0, m0, d0, zs0, hi, rfl, rfl, HM0, HO0, HZ0, hbo⟩ := hrel
    by_cases hlt : i < n
    · obtain ⟨p, hp⟩ : ∃ p, ps[i]? = some p := ⟨ps[i]'(by have := HN.out; omega), List.getElem?_eq_getElem _⟩
      have HP := Lib.hid hp
      have hpl := HL12.out p (List.mem_of_getElem? hp)
      have HST := Lib.hid (nmT_step hp)
      obtain ⟨b, o, rfl, _⟩ := (H.out.below hbo (Nat.le_refl _)).row hp
      have u1 : (0 : Int) ≤ (i : Int) := Int.natCast_nonneg _
      have u2 : (i : Int) < (n : Int) := by omega
      clear hp
      go_wp2_with fail
      go_loopw [7, 9] (fun v kk wr => ∃ (k g m d : Nat) (zs : List ByteArray), k ≤ p.ns.length ∧ kk = .int .i64 k ∧ v = .slice (some ⟨g, 0, none⟩) m d ∧ Hid (m ≤ 12 * i + k) ∧ Hid (RowT wr w.heap.size g m d zs) ∧ Hid (IsSetT zs (hq ps y (nmT (ps.take i) ++ (p.ns.take k).map Nm.t))) ∧ Below w.heap.size w wr) (fun _ kk _ => p.ns.length - (intOf kk).toNat)
      case atStart => exact ⟨0, g0, m0, d0, zs0, Nat.zero_le _, rfl, rfl, Lib.hid (by have := HM0.out; omega), HO0, Lib.hid (by have h1 := HZ0.out; simpa using h1), hbo⟩
      case round =>
        rename World => wm
        clear HO0 HM0 HZ0 hbo
        obtain ⟨k, g, m, d, zs, hk, rfl, rfl, HM, HO, HZ, hbm⟩ := hrel
        have HRM := Lib.hid (H.out.below hbm (Nat.le_refl _))
        obtain ⟨b', o', hA, hbl, A1, d1, c0, c1, c2, c3, c4, hnm, hd1⟩ := HRM.out.row HP.out
        obtain ⟨rfl, rfl⟩ : b = b' ∧ o = o' := by injection hA with hA; injection hA with e1 e2; exact ⟨e1, e2⟩
        clear hA
        by_cases hlk : k < p.ns.length
        · obtain ⟨x, hx⟩ : ∃ x, p.ns[k]? = some x := ⟨p.ns[k]'hlk, List.getElem?_eq_getElem _⟩
          obtain ⟨bn, on, rfl, hbn, e0, e1, e2, e3, e4⟩ := hnm.row hx
          have HX := Lib.hid hx
          have CE1 := Lib.hid (CE.out x.t)
          have HBM := Lib.hid hbm
          have u3 : (0 : Int) ≤ (k : Int) := Int.natCast_nonneg _
          have u4 : (k : Int) < (p.ns.length : Int) := by omega
          clear hx hnm hbm hd1
          go_wp2_with fail
          go_loopw [11, 12] (fun cn j wr => ∃ jj : Nat, jj ≤ n ∧ j = .int .i64 jj ∧ cn = .int .i64 (cntX (ps.take jj) y x.t : Nat) ∧ Below wm.heap.size wm wr) (fun _ j _ => n - (intOf j).toNat)
          case atStart => exact ⟨0, Nat.zero_le _, rfl, by rw [cntX_none]; rfl, Below.refl _ _⟩
          case round =>
            clear c0 c1 c2 c3 c4 e0 e1 e2 e3 e4
            obtain ⟨j, hj, rfl, rfl, hbr⟩ := hrel
            by_cases hlj : j < n
            · obtain ⟨r, hr⟩ : ∃ p, ps[j]? = some p := ⟨ps[j]'(by have := HN.out; omega), List.getElem?_eq_getElem _⟩
              have hbw := bstep9 HBM.out HBM.out.size hbr
              obtain ⟨b', o', hA, hbl', A2, d2, c0, c1, c2, c3, c4, hnm, hd1⟩ := (H.out.below hbw (Nat.le_refl _)).row hr
              obtain ⟨rfl, rfl⟩ : b = b' ∧ o = o' := by injection hA with hA; injection hA with e1 e2; exact ⟨e1, e2⟩
              have CX := Lib.hid (CE1.out r (List.mem_of_getElem? hr) A2 d2 wr (hnm.more hbw.size))
              have HR := Lib.hid hr
              have u5 : (0 : Int) ≤ (j : Int) := Int.natCast_nonneg _
              have u6 : (j : Int) < (n : Int) := by omega
              have HCL := Lib.hid (cntX_len (ps.take j) y x.t)
              have hcl : (ps.take j).length ≤ 10 := by rw [List.length_take]; have := HN10.out; omega
              have hcb : cntX (ps.take j) y x.t ≤ 10 := by have := HCL.out; omega
              unfold plv11 at CX
              clear hA hr hnm hd1 hbw
              cases hh : hasT11 r.ns y x.t
              · rw [hh] at CX
                have HCN := Lib.hid (cntX_no HR.out hh)
                clear hh
                go_wp2_with fail
                refine CX.out.mono ?_
                rintro e w2 ⟨rfl, g2⟩
                have hbt := bstep9 hbr hbr.size g2
                clear g2 c0 c1 c2 c3 c4
                go_wp2_with fail
                go_roundw
                case rel => exact ⟨j + 1, by omega, by go_num, by rw [HCN.out], hbt⟩
                case measure => simp [intOf]; omega
              · rw [hh] at CX
                have HCN := Lib.hid (cntX_yes HR.out hh)
                clear hh
                generalize cntX (ps.take j) y x.t = q at HCN hcb ⊢
                go_wp2_with fail
                refine CX.out.mono ?_
                rintro e w2 ⟨rfl, g2⟩
                have hbt := bstep9 hbr hbr.size g2
                clear g2 c0 c1 c2 c3 c4
                go_wp2_with fail
                go_roundw
                case rel => exact ⟨j + 1, by omega, by go_num, by rw [HCN.out]; go_num, hbt⟩
                case measure => simp [intOf]; omega
            · have HALL : Hid (cntX (ps.take j) y x.t = cntX ps y x.t) := Lib.hid (by rw [List.take_of_length_le (by have := HN.out; omega)])
              rw [HALL.out]
              have hbw := bstep9 HBM.out HBM.out.size hbr
              have HOR := Lib.hid (show RowT wr w.heap.size g m d zs from keptW HO.out hbr)
              by_cases hc : 1 < cntX ps y x.t
              · have HQ := Lib.hid (hq_yes (ps := ps) (y := y) (a := nmT (ps.take i)) HX.out hc)
                have hmb : m ≤ 1048576 := by have := HM.out; have := HN10.out; have := HN.out; omega
                have HZL : Hid (zs.length = m) := Lib.hid (by have := HO.out.1; rw [strV_len] at this; omega)
                have CI := Lib.hid (cIns w.heap.size g m d zs _ x.t wr hmb hbw.size HOR.out HZ.out)
                have hc1 : (1 : Int) < ((cntX ps y x.t : Nat) : Int) := by omega
                generalize cntX ps y x.t = q at hc1
                have HBW := Lib.hid hbw
                clear hc hbw
                go_wp2_with fail
                refine CI.out.mono ?_
                rintro e w3 ⟨g3, m3, d3, zs3, rfl, hm3, hown3, hz3, hb3⟩
                have hbt := bstep9 HBW.out HBW.out.size hb3
                have HO3 := Lib.hid hown3
                have HZ3 : Hid (IsSetT zs3 (hq ps y (nmT (ps.take i) ++ (p.ns.take (k + 1)).map Nm.t))) := Lib.hid (by rw [HQ.out]; exact hz3)
                have HM3 : Hid (m3 ≤ 12 * i + (k + 1)) := Lib.hid (by have := HZL.out; have := HM.out; omega)
                clear hown3 hz3 hb3 hm3
                go_wp2_with fail
                go_roundw
                case rel => exact ⟨k + 1, g3, m3, d3, zs3, by omega, by go_num, rfl, HM3, HO3, HZ3, hbt⟩
                case measure => simp [intOf]; omega
              · have HQ := Lib.hid (hq_no (ps := ps) (y := y) (a := nmT (ps.take i)) HX.out hc)
                have HZ3 : Hid (IsSetT zs (hq ps y (nmT (ps.take i) ++ (p.ns.take (k + 1)).map Nm.t))) := Lib.hid (by rw [HQ.out]; exact HZ.out)
                have hc1 : ¬ (1 : Int) < ((cntX ps y x.t : Nat) : Int) := by omega
                generalize cntX ps y x.t = q at hc1
                clear hc
                go_wp2_with fail
                go_roundw
                case rel => exact ⟨k + 1, g, m, d, zs, by omega, by go_num, rfl, Lib.hid (by have := HM.out; omega), HOR, HZ3, hbw⟩
                case measure => simp [intOf]; omega
        · have HZ3 : Hid (IsSetT zs (hq ps y (nmT (ps.take (i + 1))))) := Lib.hid (by rw [HST.out]; have h1 := HZ.out; rwa [List.take_of_length_le (show p.ns.length ≤ k by omega)] at h1)
          clear hnm hd1
          go_wp2_with fail
          go_roundw
          case rel => exact ⟨i + 1, g, m, d, zs, by omega, by go_num, rfl, Lib.hid (by have := HM.out; omega), HO, HZ3, hbm⟩
          case measure => simp [intOf]; omega
    · have HE : Hid (zs0 = setT (homL ps y)) := Lib.hid (setT_eq (by have h1 := HZ0.out; rw [List.take_of_length_le (by have := HN.out; omega)] at h1; exact h1))
      have HO2 : Hid (wo.ownsRow w.heap.size 9 1 (.slice (some ⟨g0, 0, none⟩) m0 d0) m0 (strV (setT (homL ps y)))) := Lib.hid (by rw [← HE.out]; exact HO0.out)
      go_wp2_with fail
      go_ret2
      exact ⟨_, m0, d0, rfl, HO2.out, hbo⟩
end
end Go.Proofs.YtglmibmjbignbaaGreatDoor
