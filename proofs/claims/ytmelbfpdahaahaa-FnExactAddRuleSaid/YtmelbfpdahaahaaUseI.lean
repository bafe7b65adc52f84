/-
  The contract of impl.UselessRules.
-/
import Derived.Test.YtmelbfpdahaahaaUsePlain
import Derived.Deep.RegionHeld3
import Derived.Shelf.SlMaps.Clone
namespace Go.Proofs
open Go.Shelf
def Try.cloneM_ren : Go.Shelf.Ren := ⟨fun | 5 => 31 | 7 => 46 | n => n, fun | 23 => 51 | 25 => 56 | 3 => 2 | 4 => 4 | 20 => 20 | n => n, fun | n => n⟩
theorem Try.cloneM : Go.Proofs.SlLaysW.n5 Try.prog Try.cloneM_ren := {
  mixed := by kernel_rfl
  f5 := ⟨Try.f31.name, by decide, Try.func31.trans (congrArg some (by kernel_rfl))⟩
  f7 := Try.func46.trans (congrArg some (by kernel_rfl))
  t4 := Try.underlying4
  a4 := Try.isAgg4
  z4 := Try.sizeOf4
  v4 := Try.zeroValue4
  t20 := Try.underlying20
  a20 := Try.isAgg20
  z20 := Try.sizeOf20
  v20 := Try.zeroValue20
  t23 := Try.underlying51
  a23 := Try.isAgg51
  z23 := Try.sizeOf51
  v23 := Try.zeroValue51 }
end Go.Proofs
namespace Go.Proofs.Ytmelbfpdahaahaa
set_option linter.unusedVariables false
open Go.RowKit Go.Maps Go.WideMaps

/-- One cell, through a drawn region. -/
def OneS (A0 : World) (b : Nat) (v : Value) (W : World) : Prop := W.cell? ⟨b, 1, none⟩ = some v ∧ b < W.heap.size ∧ Below A0.heap.size A0 W
theorem OneS.keep {A0 W W' : World} {b : Nat} {v : Value} (h : OneS A0 b v W) (hb : Below W.heap.size W W') : OneS A0 b v W' :=
  ⟨(hb.cell (p := ⟨b, 1, none⟩) h.2.1).trans h.1, Nat.lt_of_lt_of_le h.2.1 hb.size, h.2.2.trans (hb.mono h.2.2.size)⟩
theorem OneS.get {A0 W : World} {b : Nat} {v : Value} (h : OneS A0 b v W) : Below A0.heap.size A0 W := h.2.2
theorem numAt_row {w : World} {B : Nat} {A : Option Addr} {c : Nat} {l : List Int} (h : w.ownsRow B 2 1 (.slice A l.length c) l.length (intV l)) : NumAt w w.heap.size A l.length l := by
  have hrow := RowI.of h
  exact ⟨rfl, fun hp => by
    obtain ⟨g, e1, h1, h2⟩ := hrow.cells hp
    exact ⟨g, 0, e1, h1, fun j x hx => by rw [Nat.zero_add]; exact h2 j x hx⟩⟩

theorem goodZ_del {rs : List Ru} {k xs l : List Int} (h : usedF (delF (placeK (keys rs)) k) xs = some l) : l.length ≤ xs.length ∧ GoodZ rs.length l :=
  usedF_mem (P := fun i => ∃ q : Nat, i = (q : Int) ∧ q < rs.length) (fun ys v hv => by
    unfold delF at hv
    split at hv
    · cases hv
    · obtain ⟨q, h1, h2, _⟩ := placeK_pos hv
      exact ⟨q, h1, by rwa [keys_len] at h2⟩) _ xs (Nat.le_refl _) l h
set_option maxHeartbeats 4000000 in
set_option maxRecDepth 100000 in
theorem cUseI (A : Option Addr) (n c : Nat) (rs : List Ru) (w : World) (hb : n ≤ 1048576) (h : RulesAt w w.heap.size A n rs) (hcap : CapsAt w A rs) :
    Calls Try.prog 16 #[.slice A n c] w (UOut (useZ rs) (useC rs) w) := by
  obtain ⟨i0, hi0, hz0, hz1, hz2⟩ := info_parts info_i64
  have CF := Lib.hid (cFinder A n c rs w (by unfold maxLen; omega) h)
  have HL := Lib.hid h.1
  have H := Lib.hid h
  have HCAP := Lib.hid hcap
  unfold useZ useC
  clear h hcap
  cases ht : tableB rs
  · rw [ht] at CF
    clear ht
    go_enter Try.func16, Try.ntmps16
    go_wp2_with (go_at_call 30; refine (show Calls Try.prog _ _ _ (fun e w' => e = .returned (.tuple #[.map none, .bool false]) ∧ _ ∧ Below w.heap.size w w') from CF.out).mono ?_; rintro e w1 ⟨rfl, _, hb1⟩)
    go_ret2
    exact uOut_nil hb1
  · have HT := Lib.hid ht
    have CF2 : Hid (Calls Try.prog 30 #[.slice A n c] w (fun e w' => e = .returned (.tuple #[.map (some w.heap.size), .bool true]) ∧ (tableB rs = true → KDict w' w.heap.size n (placeK (keys rs))) ∧ Below w.heap.size w w')) := Lib.hid (CF.out.mono fun e w' h => ⟨by rw [h.1, HT.out]; rfl, h.2⟩)
    clear ht CF
    go_enter Try.func16, Try.ntmps16
    go_wp2_with fail
    refine CF2.out.mono ?_
    rintro e w1 ⟨rfl, hD1, hb1⟩
    have HD1 := Lib.hid (hD1 HT.out)
    clear hD1
    go_wp2_with fail
    go_loopw [6, 21] (fun u i wr => ∃ (k q : Nat) (uv : Value), uv = u ∧ k ≤ n ∧ i = .int .i64 k ∧ q ≤ k ∧ Hid (q = (useU rs k).length) ∧ wr.ownsRow (w.heap.size + 1) 2 1 uv q (intV (useU rs k)) ∧ Hid (KDict wr w.heap.size n (placeK (keys rs))) ∧ Below w.heap.size w wr) (fun _ i _ => n - (intOf i).toNat)
    case atStart => exact ⟨0, 0, _, rfl, Nat.zero_le _, rfl, Nat.le_refl _, Lib.hid rfl, World.ownsRow_nil _ _ _ _, HD1, hb1⟩
    case round =>
      clear HD1 hb1 CF2
      obtain ⟨k, q, uv, rfl, hk, rfl, hqk, HQ, hown, HD, hbw⟩ := hrel
      by_cases hlt : k < n
      · obtain ⟨r, hr⟩ : ∃ r, rs[k]? = some r := ⟨rs[k]'(by have := HL.out; omega), List.getElem?_eq_getElem _⟩
        have HR0 := Lib.hid (H.out.below hbw (Nat.le_refl _))
        obtain ⟨b, o, rfl, hbl, A1, n1, c1, k0, k1, k2, k3, k4⟩ := HR0.out.row hr
        have hlr := rule_signs (goodT_mem (table_good HT.out) (List.mem_of_getElem? hr))
        have hl3 := signs_len hlr
        have hc12 := (HCAP.out.below hbw).use hr (by omega) k0
        have HC1 := Lib.hid hc12.1
        have HC2 := Lib.hid hc12.2
        have HN1 : Hid (n1 = r.1.length) := Lib.hid k2.1
        have HX := Lib.hid (signs_all hlr)
        have HK := Lib.hid (keyList_of hlr hl3.2)
        have HR := Lib.hid hr
        have h1 : 1 ≤ n1 := by rw [HN1.out]; exact hl3.1
        have h3 : n1 ≤ 3 := by rw [HN1.out]; exact hl3.2
        have hws := hbw.size
        have HN2 := Lib.hid (k2.more hws)
        have hbl2 : b < wr.heap.size := Nat.lt_of_lt_of_le hbl hws
        clear hr hlr hl3 hc12 k2 k3 k4
        go_wp2_with fail
        obtain ⟨W1, hW1⟩ : ∃ W1, W1 = wr.alloc (.cells #[.slice A1 n1 c1, .string r.2] 39) := ⟨_, rfl⟩
        have HPA : Hid (PairAt W1 wr.heap.size (.slice A1 n1 c1) (.string r.2)) := Lib.hid (by rw [hW1]; exact PairAt.new wr _ _ _)
        have hBA : Below wr.heap.size wr W1 := by rw [hW1]; exact alloc_below _ _
        have HS1 : Hid (W1.heap.size = wr.heap.size + 1) := Lib.hid (by rw [hW1]; simp)
        have HB1 := Lib.hid (hbw.trans (hBA.mono hws))
        have HN3 := Lib.hid ((HN2.out.below hBA (Nat.le_refl _)).more hBA.size)
        have HO1 := Lib.hid (ownsRow_keep hown hBA)
        have HDK := Lib.hid (HD.out.below hBA)
        obtain ⟨D, hownD, hDD⟩ := HD.out.below hBA
        have hmb := hownD.lt
        have HDD := Lib.hid hDD
        have HO := Lib.hid hownD
        rw [← hW1]
        clear hW1 k0 k1 HN2 hown HD hownD hDD hbw hBA HR0
        have CM := Lib.hid (AnyW.maps_Clone_owns Try.cloneM 56 (plainElem Try.prog 2) w.heap.size n D W1 HO.out)
        refine (show Calls Try.prog 31 _ _ _ from CM.out).mono ?_
        rintro e w2 ⟨rfl, hoC, _, hb2⟩
        have HOC := Lib.hid hoC
        have HB2 := Lib.hid hb2
        have hs2 := hb2.size
        obtain ⟨l2, a0, a1⟩ := HPA.out.below hb2
        have CK := Lib.hid (cKeyOf A1 n1 c1 r.1 w2 HK.out.1 ((HN3.out.below hb2 (Nat.le_refl _)).more hs2))
        clear hoC hb2 CM
        have hkey := key_read HK.out
        go_wp2_with (first
          | (go_at_call 32; refine CK.out.mono ?_; rintro e w3 ⟨rfl, hb3⟩)
          | (at_delete; go_loud (refine wpList_delete_own _ rfl _ _ 51 56 rfl 2 key_law Try.underlying51 _ W1.heap.size n _ rfl (HOC.out.kept (bgr hb3 none) (by simp)) _ _ rfl hkey ?_); intro w4 hown4 hturn4; have hb4 : Below W1.heap.size W1 w4 := (HB2.out.trans (hb3.mono hs2)).grown hturn4.grown (by have := hb3.size; omega) (fun j hj => by cases hj; exact Nat.le_refl _); obtain ⟨l4, d0, d1⟩ := HPA.out.below hb4))
        clear a0 a1 l2 CK HOC HB2
        have HD4 : Hid (KDict w4 W1.heap.size n (delF (placeK (keys rs)) r.1)) := Lib.hid ⟨_, hown4, HDD.out.del HK.out⟩
        have HB4 := Lib.hid hb4
        have hs4 := hb4.size
        have HP4 := Lib.hid (HPA.out.below hb4)
        have CR := Lib.hid (cRulesFor W1.heap.size n (delF (placeK (keys rs)) r.1) A1 n1 c1 r.1 w4 (by omega) HC1.out HC2.out HX.out HD4.out ((HN3.out.below hb4 (Nat.le_refl _)).more hs4))
        clear hown4 hturn4 hb4 hb3 hkey HDD HPA
        cases hu : usedF (delF (placeK (keys rs)) r.1) r.1 with
        | none =>
          rw [hu] at CR
          have CR3 := Lib.hid (CR.out.mono fun e w' h => h.no)
          have HU := Lib.hid (useU_no HR.out (uselB_none hu))
          clear hu CR
          go_wp2_with fail
          refine CR3.out.mono ?_
          rintro e w5 ⟨rfl, hb5⟩
          have hb15 := HB4.out.trans (hb5.mono hs4)
          have HB5 := Lib.hid (HB1.out.trans (hb15.mono HB1.out.size))
          have HO5 := Lib.hid (ownsRow_keep HO1.out hb15)
          have HD5 := Lib.hid (HDK.out.below hb15)
          clear hb5 hb15 CR3
          go_wp2_with fail
          go_quiet (fail)
          go_wp2
          go_roundw
          case rel => exact ⟨k + 1, q, _, rfl, by omega, by go_num, by omega, Lib.hid (by rw [HU.out]; exact HQ.out), by rw [HU.out]; exact HO5.out, Lib.hid (HD5.out.below (below_drewR (Below.refl _ _) _)), below_drewR HB5.out _⟩
          case measure => simp [intOf]; omega
        | some l =>
          have hgz := goodZ_del hu
          have HGL : Hid (l.length ≤ 1048576) := Lib.hid (by have := hgz.1; rw [← HN1.out] at this; omega)
          have HG : Hid (GoodZ n l) := Lib.hid (by rw [HL.out]; exact hgz.2)
          have HUB := Lib.hid (uselB_some hu)
          rw [hu] at CR
          have CR3 := Lib.hid (CR.out.mono fun e w' h => h.yes)
          clear hu CR hgz
          go_wp2_with fail
          refine CR3.out.mono ?_
          rintro e w5 ⟨A2, c2, rfl, hown5, hb5⟩
          have hb15 := HB4.out.trans (hb5.mono hs4)
          have HB5 := Lib.hid (HB1.out.trans (hb15.mono HB1.out.size))
          have HO5 := Lib.hid (ownsRow_keep HO1.out hb15)
          have HD5 := Lib.hid (HDK.out.below hb15)
          have HN5 := Lib.hid (numAt_row hown5)
          obtain ⟨l5, e0, e1⟩ := HP4.out.below hb5
          have HRo := Lib.hid (fun (W : World) (hW : Below w5.heap.size w5 W) => cRomanOf (some ⟨b, o, none⟩) A2 n l.length c c2 rs l W hb HGL.out (table_rom HT.out) HG.out ((H.out.below (HB5.out.trans (hW.mono HB5.out.size)) (Nat.le_refl _)).more (Nat.le_trans HB5.out.size hW.size)) ((HN5.out.below hW (Nat.le_refl _)).more hW.size))
          clear hb5 hb15 CR3 hown5 d0 d1 l4 HN5
          by_cases he : catR rs l = r.2
          · have hd1 : ((catR rs l).toList == r.2.toList) = true := by rw [text_beq]; exact decide_eq_true he
            have HU := Lib.hid (useU_yes HR.out (by rw [HUB.out]; exact decide_eq_true he))
            go_wp2_with fail
            go_region_held3 (fun W => W.cell? ⟨wr.heap.size, 1, none⟩ = some (.string r.2) ∧ wr.heap.size < W.heap.size ∧ Below w5.heap.size w5 W)
              (first | (exact ⟨e1, l5, (Below.refl _ _).drew⟩) | (exact OneS.keep (A0 := w5) (by assumption) hb) | assumption)
              ((go_at_call 34; refine (HRo.out _ (OneS.get (A0 := w5) (show OneS w5 wr.heap.size (.string r.2) _ by assumption))).mono ?_; rintro e w6 ⟨rfl, hb⟩))
            all_goals
              have hq6 : Below w5.heap.size w5 w6 := OneS.get (show OneS w5 wr.heap.size (.string r.2) w6 by assumption)
              have HB6 := Lib.hid (HB5.out.trans (hq6.mono HB5.out.size))
              have HO6 := Lib.hid (ownsRow_keep HO5.out hq6)
              have HD6 := Lib.hid (HD5.out.below hq6)
              clear hq6 HRo
              go_wp2_with (at_builtin; refine wpList_append_own _ rfl _ _ 24 rfl (w.heap.size + 1) 2 i0 _ 1 8 Try.underlying24 hi0 hz0 hz1 hz2 rfl (by decide) _ _ _ rfl (HO6.out.alloc _) ⟨w6.heap.size, 0, none⟩ 1 1 [.int .i64 (k : Int)] rfl rfl ?c1 ?c2 ?c3 ?c4 ?c5 ?_)
              case c1 => exact one_cell' _ _ _ (new_one w6 _ _)
              case c2 => first
                | rfl
                | (intro u hu; simp at hu; subst hu; rfl)
              case c3 => unfold maxLen; omega
              case c4 => omega
              case c5 => have := HD6.out.lt; simp; omega
              intro v' w7 hown7 hgrow7 _
              rw [intV_snoc] at hown7
              have HD7 : Hid (KDict w7 w.heap.size n (placeK (keys rs))) := Lib.hid ((HD6.out.below (alloc_below w6 _)).kept hgrow7 (fun e => by have := (HO6.out.lt w.heap.size e.symm).1; omega))
              have hB7 : Below w.heap.size w w7 := ((HB6.out).alloc HB6.out.size _).grown hgrow7 (by have := HB6.out.size; simp; omega) (fun y hy => by have := (HO6.out.lt y hy).1; omega)
              clear hgrow7
              go_wp2
              go_roundw
              case rel => exact ⟨k + 1, q + 1, v', rfl, by omega, by go_num, by omega, Lib.hid (by rw [HU.out, List.length_append, HQ.out]; rfl), by rw [HU.out]; exact hown7, HD7, hB7⟩
              case measure => simp [intOf]; omega
          · have hd1 : ((catR rs l).toList == r.2.toList) = false := by rw [text_beq]; exact decide_eq_false he
            have HU := Lib.hid (useU_no HR.out (by rw [HUB.out]; exact decide_eq_false he))
            go_wp2_with fail
            go_region_held3 (fun W => W.cell? ⟨wr.heap.size, 1, none⟩ = some (.string r.2) ∧ wr.heap.size < W.heap.size ∧ Below w5.heap.size w5 W)
              (first | (exact ⟨e1, l5, (Below.refl _ _).drew⟩) | (exact OneS.keep (A0 := w5) (by assumption) hb) | assumption)
              ((go_at_call 34; refine (HRo.out _ (OneS.get (A0 := w5) (show OneS w5 wr.heap.size (.string r.2) _ by assumption))).mono ?_; rintro e w6 ⟨rfl, hb⟩))
            all_goals
              have hq6 : Below w5.heap.size w5 w6 := OneS.get (show OneS w5 wr.heap.size (.string r.2) w6 by assumption)
              have HB6 := Lib.hid (HB5.out.trans (hq6.mono HB5.out.size))
              have HO6 := Lib.hid (ownsRow_keep HO5.out hq6)
              have HD6 := Lib.hid (HD5.out.below hq6)
              clear hq6 HRo
              go_wp2
              go_roundw
              case rel => exact ⟨k + 1, q, _, rfl, by omega, by go_num, by omega, Lib.hid (by rw [HU.out]; exact HQ.out), by rw [HU.out]; exact HO6.out, HD6, HB6.out⟩
              case measure => simp [intOf]; omega
      · have hkn : k = rs.length := by have := HL.out; omega
        have hq := HQ.out
        rw [hkn] at hown
        have hown9 := rowBase hown (Nat.le_succ w.heap.size)
        obtain ⟨A1, c1, rfl⟩ := row_slice hown9
        have HO9 := Lib.hid hown9
        clear hown hown9 hkn hq
        go_wp2
        go_ret2
        exact ⟨A1, _, c1, rfl, HO9.out, hbw⟩
end Go.Proofs.Ytmelbfpdahaahaa
