/-
  The contract of spec.UselessRules; both contracts for the law.
-/
import Derived.Test.YtmelbfpdahaahaaUseI
import Derived.Deep.RegionLaw
import Derived.Deep.AppendLies
namespace Go.Proofs.Ytmelbfpdahaahaa
set_option linter.unusedVariables false
open Go.RowKit

/-- append at a step of a region that draws, nothing asked of the number. -/
theorem step_append_u {P : Program} {w : World} {ops : Array Oper} {o : Oper} {a : Act} {K : Act → World → Prop} {Q : Exit → Act → World → Prop} {E : Prop} (hgd : o.guard = none) (s x : Operand) (t : TypeId)
    (ho : o.op = .call { callee := .builtin .append, args := #[s, x], argTypes := #[t, t] })
    (base : Nat) (e : TypeId) (i : TypeInfo) (z : Value) (size bytes : Nat) (ht : P.underlying t = some (.slice e)) (hi : P.info? e = some i) (hz : i.zero = some z)
    (hsize : i.size = size) (hby : i.bytes = bytes) (hzs : z.cells.size = size) (hsz : 0 < size)
    (v : Value) (n : Nat) (xs : List Value) (hs : a.eval s = v) (hown : w.ownsRow base e size v n xs)
    (ad : Addr) (m c : Nat) (news : List Value) (hx : a.eval x = .slice (some ad) m c) (hl : news.length = m * size) (hnews : ∀ j u, news[j]? = some u → w.cell? (ad.add j) = some u) (h1 : ∀ u ∈ news, u.oneCell' = true)
    (h63 : n + m ≤ maxLen) (hbytes : (n + m) * bytes ≤ 140737488355328) (hbase : base ≤ w.heap.size)
    (h : ∀ v' w', w'.ownsRow base e size v' (n + m) (xs ++ news) → w.grownBy w' v.ownBlock → (v' = .slice none 0 0 ↔ v = .slice none 0 0 ∧ m = 0) → K (a.put o.dst v') w') :
    if Region.wanted o (yielded ops a.tmps) = true then Oper.wp P o a w K Q else E := by
  have hw : Region.wanted o (yielded ops a.tmps) = true := by simp [Region.wanted, hgd]
  rw [if_pos hw]
  exact wp_append_own w s x t ho base e i z size bytes ht hi hz hsize hby hzs hsz v n xs hs hown ad m c news hx hl hnews h1 h63 hbytes hbase h

set_option maxHeartbeats 4000000 in
set_option maxRecDepth 100000 in
theorem cUseS (A : Option Addr) (n c : Nat) (rs : List Ru) (w : World) (hb : n ≤ 1048576) (hnc : n ≤ c) (hcc : c ≤ 1048576) (h : RulesAt w w.heap.size A n rs) (hcap : CapsAt w A rs) :
    Calls Try.prog 15 #[.slice A n c] w (UOut (useZ rs) (useC rs) w) := by
  obtain ⟨i0, hi0, hz0, hz1, hz2⟩ := info_parts info_i64
  obtain ⟨iR, hiR, hzR0, hzR1, hzR2⟩ := info_parts info_rule
  have CT := Lib.hid (cIsTable_spec A n c _ rs w (by unfold maxLen; omega) h (Nat.le_refl _))
  have HL := Lib.hid h.1
  have H := Lib.hid h
  have HCAP := Lib.hid hcap
  unfold useZ useC
  clear h hcap
  cases ht : tableB rs
  · rw [ht] at CT
    clear ht
    go_enter Try.func15, Try.ntmps15
    go_wp2_with (go_at_call 24; refine CT.out.mono ?_; rintro e w1 ⟨rfl, hb1⟩)
    go_ret2
    exact uOut_nil hb1
  · rw [ht] at CT
    have HT := Lib.hid ht
    clear ht
    go_enter Try.func15, Try.ntmps15
    go_wp2_with fail
    refine CT.out.mono ?_
    rintro e w1 ⟨rfl, hb1⟩
    go_wp2_with fail
    go_loopw [4, 5] (fun u i wr => ∃ (k q : Nat) (uv : Value), uv = u ∧ k ≤ n ∧ i = .int .i64 k ∧ q ≤ k ∧ Hid (q = (useU rs k).length) ∧ wr.ownsRow w.heap.size 2 1 uv q (intV (useU rs k)) ∧ Below w.heap.size w wr) (fun _ i _ => n - (intOf i).toNat)
    case atStart => exact ⟨0, 0, _, rfl, Nat.zero_le _, rfl, Nat.le_refl _, Lib.hid rfl, World.ownsRow_lit (e := 2) (base := w.heap.size) (size := 1) w1 #[] 0 hb1.size (by decide) rfl, hb1.alloc hb1.size _⟩
    case round =>
      clear hb1 CT
      obtain ⟨k, q, uv, rfl, hk, rfl, hqk, HQ, hown, hbw⟩ := hrel
      by_cases hlt : k < n
      · obtain ⟨r, hr⟩ : ∃ r, rs[k]? = some r := ⟨rs[k]'(by have := HL.out; omega), List.getElem?_eq_getElem _⟩
        have HR0 := Lib.hid (H.out.below hbw (Nat.le_refl _))
        obtain ⟨b, o, rfl, hbl, A1, n1, c1, k0, k1, k2, k3, k4⟩ := HR0.out.row hr
        have hlr := rule_signs (goodT_mem (table_good HT.out) (List.mem_of_getElem? hr))
        have hl3 := signs_len hlr
        have hc12 := (HCAP.out.below hbw).use hr (by omega) k0
        have HC1 := Lib.hid hc12.1
        have HC2 := Lib.hid hc12.2
        have HN1 : Hid (n1 = r.1.length) := Lib.hid k2.1
        have HR := Lib.hid hr
        have h1 : 1 ≤ n1 := by rw [HN1.out]; exact hl3.1
        have h3 : n1 ≤ 3 := by rw [HN1.out]; exact hl3.2
        have hws := hbw.size
        have hbl2 : b < wr.heap.size := Nat.lt_of_lt_of_le hbl hws
        obtain ⟨b1, o1, rfl, _, _⟩ := k2.2 (by omega)
        have HN2 := Lib.hid (k2.more hws)
        obtain ⟨es, hes, hat⟩ := HR0.out.cels
        have hel : es.length = n := by have h9 := congrArg List.length hes; unfold ruC at h9; rw [List.length_map] at h9; rw [h9, HL.out]
        have HE := Lib.hid hes
        have HAT := Lib.hid hat
        have HEL := Lib.hid hel
        have HB0 := Lib.hid hbw
        have HO0 := Lib.hid hown
        have HK0 := Lib.hid k0
        have HK1 := Lib.hid k1
        clear hr hlr hl3 hc12 k2 k3 k4 hes hat hbw hown
        obtain ⟨m, hm⟩ : ∃ m, m = k + 1 := ⟨_, rfl⟩
        have HM := Lib.hid hm
        have OWN1 : ((wr.alloc (.cells #[] 39)).drew).ownsRow wr.heap.size 39 2 (.slice (some ⟨wr.heap.size, 0, none⟩) 0 0) 0 (#[] : Array Value).toList := World.ownsRow_lit (e := 39) (base := wr.heap.size) (size := 2) wr #[] 0 (Nat.le_refl _) (by decide) rfl
        have CEL : ∀ (W : World), ((wr.alloc (.cells #[] 39)).drew).grownBy W (Value.slice (some ⟨wr.heap.size, 0, none⟩) 0 0).ownBlock → ∀ (p : Nat) u, wr.cell? ⟨b, p, none⟩ = some u → W.cell? ⟨b, p, none⟩ = some u := fun W hW p u hu => by
          have h2 : ((wr.alloc (.cells #[] 39)).drew).cell? ⟨b, p, none⟩ = some u := (World.cell?_alloc_lt wr (.cells #[] 39) ⟨b, p, none⟩ hbl2).trans hu
          exact hW.cell h2 (by simp [Value.ownBlock]; omega)
        have NEWS1 : ∀ j u, (celsV (es.take k))[j]? = some u → ((wr.alloc (.cells #[] 39)).drew).cell? ((⟨b, o, none⟩ : Addr).add j) = some u := cels_lie (fun i e he => by
          have he2 : es[i]? = some e := by rw [List.getElem?_take] at he; split at he; exact he; cases he
          have h9 := HAT.out i e he2
          exact ⟨CEL _ (World.grownBy.refl _ _) _ _ h9.1, CEL _ (World.grownBy.refl _ _) _ _ h9.2.1⟩)
        have NEWS2 : ∀ (W : World), ((wr.alloc (.cells #[] 39)).drew).grownBy W (Value.slice (some ⟨wr.heap.size, 0, none⟩) 0 0).ownBlock → ∀ (ad : Addr), (ad = ⟨b, o + m * 2, none⟩ ∨ n = m) → ∀ j u, (celsV (es.drop (k + 1)))[j]? = some u → W.cell? (ad.add j) = some u := fun W hW ad hor => by
          rw [HM.out] at hor
          rcases hor with rfl | hnk
          · exact cels_lie (fun i e he => by
              have h9 := HAT.out (k + 1 + i) e (by rw [List.getElem?_drop] at he; exact he)
              rw [show o + (k + 1 + i) * 2 = o + (k + 1) * 2 + i * 2 by omega] at h9
              exact ⟨CEL _ hW _ _ h9.1, CEL _ hW _ _ h9.2.1⟩)
          · rw [List.drop_of_length_le (by have := HEL.out; omega)]
            intro j u hu
            simp [celsV] at hu
        have LEN1 : (celsV (es.take k)).length = k * 2 := by rw [celsV_len, List.length_take]; have := HEL.out; omega
        have HOWN1 := Lib.hid OWN1
        have HNW1 := Lib.hid NEWS1
        have HNW2 := Lib.hid NEWS2
        have HONE1 := Lib.hid (cels_one (es.take k))
        have HONE2 := Lib.hid (cels_one (es.drop (k + 1)))
        have HL1 := Lib.hid LEN1
        have H1 : Hid (0 + k ≤ maxLen) := Lib.hid (by unfold maxLen; omega)
        have H2 : Hid ((0 + k) * 40 ≤ 140737488355328) := Lib.hid (by omega)
        have HBB1 : Hid (wr.heap.size ≤ ((wr.alloc (.cells #[] 39)).drew).heap.size) := Lib.hid (by simp)
        clear OWN1 CEL NEWS1 NEWS2 LEN1
        have e1 : (0 : Int) ≤ (k : Int) := Int.natCast_nonneg _
        have e2 : (k : Int) ≤ (n : Int) := by omega
        have e3 : (k : Int) ≤ (c : Int) := by omega
        have e5 : k ≤ n := by omega
        have e6 : k ≤ c := by omega
        have hwr : IntKind.i64.wrap ((k : Int) + 1) = (m : Int) := by
          rw [IntKind.wrap_i64]; omega
        have e7 : (m : Int) ≤ (n : Int) := by omega
        have e8 : (m : Int) ≤ (c : Int) := by omega
        have e4 : (0 : Int) ≤ (m : Int) := by omega
        have e9 : m ≤ c := by omega
        have e10 : m ≤ n := by omega
        have LEN2 : (celsV (es.drop (k + 1))).length = (n - m) * 2 := by rw [celsV_len, List.length_drop, HEL.out, hm]
        have HL2 := Lib.hid LEN2
        have H3 : Hid (0 + k + (n - m) ≤ maxLen) := Lib.hid (by unfold maxLen; omega)
        have H4 : Hid ((0 + k + (n - m)) * 40 ≤ 140737488355328) := Lib.hid (by omega)
        have hcase : c = m ∨ ¬ c = m := by omega
        have HNM : Hid (c = m → n = m) := Lib.hid (fun h => by omega)
        have HL20 : Hid (c = m → (celsV (es.drop (k + 1))).length = 0 * 2) := Lib.hid (fun h => by rw [celsV_len, List.length_drop, HEL.out]; omega)
        clear LEN2 hm
        clear k0 k1
        rcases hcase with rfl | hck
        all_goals
          go_wp2_with fail
          go_region_law (first
            | ((refine step_append_u rfl (.tmp 19) (.tmp 22) 27 rfl wr.heap.size 39 iR _ 2 40 Try.underlying27 hiR hzR0 hzR1 hzR2 rfl (by decide) _ 0 _ rfl HOWN1.out ⟨b, o, none⟩ k _ _ rfl HL1.out HNW1.out HONE1.out H1.out H2.out HBB1.out ?_); intro v5 w5 hown5 hgrow5 hnil5)
            | ((refine step_append_u rfl (.tmp 23) (.tmp 27) 27 rfl wr.heap.size 39 iR _ 2 40 Try.underlying27 hiR hzR0 hzR1 hzR2 rfl (by decide) _ _ _ rfl hown5 _ _ _ _ rfl (by first | exact HL2.out | exact HL20.out (by first | rfl | trivial)) (HNW2.out w5 hgrow5 _ (by first | exact .inl rfl | exact .inr (HNM.out (by first | rfl | trivial)))) HONE2.out (by first | exact H3.out | (unfold maxLen; omega)) (by first | exact H4.out | omega) (Nat.le_trans HBB1.out hgrow5.size) ?_); intro v6 w6 hown6 hgrow6 hnil6))
          have hgA : Below wr.heap.size wr ((wr.alloc (.cells #[] 39)).drew) := (alloc_below wr _).drew
          have hb5 := hgA.grown hgrow5 (by simp) (fun j hj => (HOWN1.out.lt j hj).1)
          have hb6 : Below wr.heap.size wr w6 := hb5.grown hgrow6 hb5.size (fun j hj => (hown5.lt j hj).1)
          have HB6 := Lib.hid (HB0.out.trans (hb6.mono HB0.out.size))
          have HO6 := Lib.hid (ownsRow_keep HO0.out hb6)
          have k6 : w6.cell? ⟨b, o + k * 2, none⟩ = some (.slice (some ⟨b1, o1, none⟩) n1 c1) := (hb6.cell (p := ⟨b, o + k * 2, none⟩) hbl2).trans HK0.out
          have k7 : w6.cell? ⟨b, o + k * 2 + 1, none⟩ = some (.string r.2) := (hb6.cell (p := ⟨b, o + k * 2 + 1, none⟩) hbl2).trans HK1.out
          have HBL6 : Hid (b < w6.heap.size) := Lib.hid (Nat.lt_of_lt_of_le hbl2 hb6.size)
          have HK6 := Lib.hid k6
          have HK7 := Lib.hid k7
          have e9 : (#[] : Array Value).toList ++ celsV (es.take k) ++ celsV (es.drop (k + 1)) = celsV (es.take k ++ es.drop (k + 1)) := by rw [celsV_app]; rfl
          obtain ⟨N, hNb, hown6'⟩ : ∃ N, N ≤ 1048576 ∧ w6.ownsRow wr.heap.size 39 2 v6 N (celsV (es.take k ++ es.drop (k + 1))) := by
            refine ⟨_, ?_, Eq.mp (congrArg (fun l => w6.ownsRow wr.heap.size 39 2 v6 _ l) e9) hown6⟩
            have := HM.out
            omega
          clear e9
          obtain ⟨Ar, cr, rfl, hRT⟩ := rules_of_own hown6' (fun e he => by
            obtain ⟨i, hi⟩ : ∃ i : Nat, es[i]? = some e := by
              have h9 : e ∈ es := by
                rcases List.mem_append.1 he with h | h
                · exact List.mem_of_mem_take h
                · exact List.mem_of_mem_drop h
              exact List.getElem?_of_mem h9
            obtain ⟨_, _, h3, h4, h5⟩ := HAT.out i e hi
            exact ⟨((h3.below hb6 hws).more (Nat.le_trans hws hb6.size)), h4, h5⟩)
          have hrest : ruC (es.take k ++ es.drop (k + 1)) = rs.take k ++ rs.drop (k + 1) := by
            have h9 := HE.out
            unfold ruC at h9 ⊢
            rw [List.map_append, List.map_take, List.map_drop, h9]
          rw [hrest] at hRT
          have hr4 : ∀ x ∈ rs.take k ++ rs.drop (k + 1), x.2.size ≤ 4 := fun x hx => by
            refine table_rom HT.out x ?_
            rcases List.mem_append.1 hx with h | h
            · exact List.mem_of_mem_take h
            · exact List.mem_of_mem_drop h
          have CR := Lib.hid (cRomanS Ar N cr b1 o1 n1 c1 (rs.take k ++ rs.drop (k + 1)) r.1 w6 hNb (by omega) HC1.out HC2.out hr4 hRT ((HN2.out.below hb6 (Nat.le_refl _)).more hb6.size))
          rw [rom_rest HR.out (goodT_nodup (table_good HT.out)) r.1] at CR
          unfold RomPost at CR
          clear hgA hb5 hb6 hown6' hown6 hown5 hgrow5 hgrow6 hnil5 hnil6 hRT hrest hr4 HAT HNW2 HOWN1 k7 hwr
          cases hu : usedF (delF (placeK (keys rs)) r.1) r.1 with
          | none =>
            have HU := Lib.hid (useU_no HR.out (uselB_none hu))
            rw [hu] at CR
            have CR3 := Lib.hid (show Calls Try.prog _ _ w6 (fun e w' => e = .returned (.tuple #[.string ByteArray.empty, .bool false]) ∧ Below w6.heap.size w6 w') from CR.out)
            clear hu CR
            have hd : (1 : Int) < (n1 : Int) ∨ ¬ (1 : Int) < (n1 : Int) := by omega
            rcases hd with hd | hd
            all_goals
              go_wp2_with (go_at_call 29; refine CR3.out.mono ?_; rintro e w7 ⟨rfl, hb7⟩; have k8 := (hb7.cell (p := ⟨b, o + k * 2, none⟩) HBL6.out).trans HK6.out; have k9 := (hb7.cell (p := ⟨b, o + k * 2 + 1, none⟩) HBL6.out).trans HK7.out)
              go_roundw
              case rel => exact ⟨k + 1, q, _, rfl, by omega, by go_num, by omega, Lib.hid (by rw [HU.out]; exact HQ.out), by rw [HU.out]; exact ownsRow_keep HO6.out hb7, HB6.out.trans (hb7.mono HB6.out.size)⟩
              case measure => simp [intOf]; omega
          | some l =>
            have hd : (1 : Int) < (n1 : Int) := by
              have h9 : ¬ r.1.length = 1 := fun h => by rw [use_short h] at hu; cases hu
              have := HN1.out
              omega
            have HUB := Lib.hid (uselB_some hu)
            rw [hu] at CR
            have CR3 := Lib.hid (show Calls Try.prog _ _ w6 (fun e w' => e = .returned (.tuple #[.string (catR rs l), .bool true]) ∧ Below w6.heap.size w6 w') from CR.out)
            clear hu CR
            by_cases he : catR rs l = r.2
            · have hd1 : ((catR rs l).toList == r.2.toList) = true := by rw [text_beq]; exact decide_eq_true he
              have HU := Lib.hid (useU_yes HR.out (by rw [HUB.out]; exact decide_eq_true he))
              clear he
              go_wp2_with (first
                | (go_at_call 29; refine CR3.out.mono ?_; rintro e w7 ⟨rfl, hb7⟩; have k8 := (hb7.cell (p := ⟨b, o + k * 2, none⟩) HBL6.out).trans HK6.out; have k9 := (hb7.cell (p := ⟨b, o + k * 2 + 1, none⟩) HBL6.out).trans HK7.out)
                | (at_builtin; refine wpList_append_own _ rfl _ _ 24 rfl w.heap.size 2 i0 _ 1 8 Try.underlying24 hi0 hz0 hz1 hz2 rfl (by decide) _ _ _ rfl ((ownsRow_keep HO6.out hb7).alloc _) ⟨w7.heap.size, 0, none⟩ 1 1 [.int .i64 (k : Int)] rfl rfl ?c1 ?c2 ?c3 ?c4 ?c5 ?_))
              case c1 => exact one_cell' _ _ _ (new_one w7 _ _)
              case c2 => first
                | rfl
                | (intro u hu; simp at hu; subst hu; rfl)
              case c3 => unfold maxLen; omega
              case c4 => omega
              case c5 => have := HB6.out.size; have := hb7.size; simp; omega
              intro v' w8 hown8 hgrow8 _
              rw [intV_snoc] at hown8
              have hB7 := HB6.out.trans (hb7.mono HB6.out.size)
              have hB8 : Below w.heap.size w w8 := (hB7.alloc hB7.size _).grown hgrow8 (by have := hB7.size; simp; omega) (fun y hy => ((ownsRow_keep HO6.out hb7).lt y hy).1)
              clear hgrow8
              go_wp2
              go_roundw
              case rel => exact ⟨k + 1, q + 1, v', rfl, by omega, by go_num, by omega, Lib.hid (by rw [HU.out, List.length_append, HQ.out]; rfl), by rw [HU.out]; exact hown8, hB8⟩
              case measure => simp [intOf]; omega
            · have hd1 : ((catR rs l).toList == r.2.toList) = false := by rw [text_beq]; exact decide_eq_false he
              have HU := Lib.hid (useU_no HR.out (by rw [HUB.out]; exact decide_eq_false he))
              clear he
              go_wp2_with (go_at_call 29; refine CR3.out.mono ?_; rintro e w7 ⟨rfl, hb7⟩; have k8 := (hb7.cell (p := ⟨b, o + k * 2, none⟩) HBL6.out).trans HK6.out; have k9 := (hb7.cell (p := ⟨b, o + k * 2 + 1, none⟩) HBL6.out).trans HK7.out)
              go_roundw
              case rel => exact ⟨k + 1, q, _, rfl, by omega, by go_num, by omega, Lib.hid (by rw [HU.out]; exact HQ.out), by rw [HU.out]; exact ownsRow_keep HO6.out hb7, HB6.out.trans (hb7.mono HB6.out.size)⟩
              case measure => simp [intOf]; omega
      · have hkn : k = rs.length := by have := HL.out; omega
        rw [hkn] at hown
        obtain ⟨A1, c1, rfl⟩ := row_slice hown
        have HO9 := Lib.hid hown
        clear hown hkn
        go_wp2
        go_ret2
        exact ⟨A1, _, c1, rfl, HO9.out, hbw⟩

theorem cUse_impl (A : Option Addr) (n c : Nat) (rs : List Ru) (w : World) (hb : n ≤ 1048576) (h : RulesAt w w.heap.size A n rs) (hcap : CapsAt w A rs) :
    Calls Try.prog 16 #[.slice A n c] w (UOut (useZ rs) (useC rs) w) := cUseI A n c rs w hb h hcap
theorem cUse_spec (A : Option Addr) (n : Nat) (rs : List Ru) (w : World) (hb : n ≤ 1048576) (h : RulesAt w w.heap.size A n rs) (hcap : CapsAt w A rs) :
    Calls Try.prog 15 #[.slice A n n] w (UOut (useZ rs) (useC rs) w) := cUseS A n n rs w hb (Nat.le_refl _) hb h hcap
end Go.Proofs.Ytmelbfpdahaahaa
