/-
  The contract of spec.AddRule.
-/
import Derived.Test.YtmelbfpdahaahaaOwnRs
import Derived.Test.YtmelbfpdahaahaaAddI
namespace Go.Proofs.Ytmelbfpdahaahaa
set_option linter.unusedVariables false
open Go.RowKit

theorem celsV_put (pre rest : List Cel) (e e' : Cel) : ((celsV (pre ++ e :: rest)).set (pre.length * 2) (.slice e'.1 e'.2.1 e'.2.2.1)).set (pre.length * 2 + 1) (.string e'.2.2.2.2) = celsV (pre ++ e' :: rest) := by
  rw [celsV_app, celsV_app, celsV_cons, celsV_cons, List.set_append_right _ _ (by rw [celsV_len]; exact Nat.le_refl _), celsV_len, Nat.sub_self, List.set_cons_zero,
    List.set_append_right _ _ (by rw [celsV_len]; omega), celsV_len, show pre.length * 2 + 1 - pre.length * 2 = 0 + 1 by omega, List.set_cons_succ, List.set_cons_zero]
theorem celsV_set {es : List Cel} {j : Nat} {e : Cel} (hj : es[j]? = some e) (e' : Cel) : ((celsV es).set (j * 2) (.slice e'.1 e'.2.1 e'.2.2.1)).set (j * 2 + 1) (.string e'.2.2.2.2) = celsV (es.set j e') := by
  have hjl := (List.getElem?_eq_some_iff.1 hj).1
  have hset : es.set j e' = es.take j ++ e' :: es.drop (j + 1) := List.set_eq_take_append_cons_drop.trans (if_pos hjl)
  have hlt : (es.take j).length = j := by rw [List.length_take]; omega
  have h := celsV_put (es.take j) (es.drop (j + 1)) e e'
  rw [← split_at hj, hlt] at h
  rw [h, hset]
/-- What follows when the new table stands. -/
theorem tailC {W : World} {B m : Nat} {v : Value} {es : List Cel} (hm : m ≤ 1048576) (hown : W.ownsRow B 39 2 v m (celsV es)) (hn : ∀ e ∈ es, NumAt W W.heap.size e.1 e.2.1 e.2.2.2.1 ∧ e.2.1 ≤ maxLen ∧ e.2.2.2.2.size ≤ maxLen) :
    ∃ A c, v = .slice A m c ∧ Calls Try.prog 24 #[.slice A m c] W (fun e w' => e = .returned (.bool (tableB (ruC es))) ∧ Below W.heap.size W w') ∧
      (∀ W', Below W.heap.size W W' → tableB (ruC es) = true → Calls Try.prog 38 #[.slice A m c] W' (OwnRsPost (ruC es) m W')) := by
  obtain ⟨A, c, rfl, hr⟩ := rules_of_own hown hn
  exact ⟨A, c, rfl, cIsTable_spec A m c _ _ W (by unfold maxLen; omega) hr (Nat.le_refl _), fun W' hW ht => cOwnRs A m c _ W' hm (table_bounds ht) ((hr.below hW (Nat.le_refl _)).more hW.size)⟩
/-- Two cells of two blocks, through a drawn region that stores into a third. -/
def TwoB (b1 o1 : Nat) (u : Value) (b2 o2 : Nat) (v : Value) (W : World) : Prop := W.cell? ⟨b1, o1, none⟩ = some u ∧ W.cell? ⟨b2, o2, none⟩ = some v
theorem TwoB.set {W : World} {b1 o1 b2 o2 : Nat} {u v : Value} (h : TwoB b1 o1 u b2 o2 v W) (g i j : Nat) (x y : Value) (h1 : b1 ≠ g) (h2 : b2 ≠ g) : TwoB b1 o1 u b2 o2 v ((W.setCell ⟨g, i, none⟩ x).setCell ⟨g, j, none⟩ y) := by
  have e : ∀ b, b ≠ g → ((W.setCell ⟨g, i, none⟩ x).setCell ⟨g, j, none⟩ y).heap[b]? = W.heap[b]? := fun b hb => by
    rw [Below.heap_setCell _ _ _ _ (by exact hb), Below.heap_setCell _ _ _ _ (by exact hb)]
  exact ⟨(World.cell?_of_block (e b1 h1)).trans h.1, (World.cell?_of_block (e b2 h2)).trans h.2⟩
theorem TwoC.grown {W W' : World} {row : Option Nat} {b : Nat} {u v : Value} (h : TwoC b u v W) (hg : W.grownBy W' row) (hne : some b ≠ row) : TwoC b u v W' :=
  ⟨(hg.cell_far ⟨b, 0, none⟩ h.2.2 hne).trans h.1, (hg.cell_far ⟨b, 1, none⟩ h.2.2 hne).trans h.2.1, Nat.lt_of_lt_of_le h.2.2 hg.size⟩
theorem oOut_mk {w w3 w' : World} {zs : List Ru} {m : Nat} {e : Ending} {v : Value} (h : OwnRsPost zs m w3 e w') (hb : Below w.heap.size w w3) (he : e = .returned v) : AOut zs 0 w (.returned (.tuple #[v, .int .i64 0])) w' := by
  obtain ⟨g, c, es, h1, h2, h3, h4⟩ := h
  rw [h1] at he
  cases he
  exact AOut.mk h3 hb.size h2 (hb.trans (h4.mono hb.size))

set_option maxHeartbeats 4000000 in
set_option maxRecDepth 100000 in
theorem cAddS (b o : Nat) (A1 : Option Addr) (n c n1 c1 : Nat) (rs : List Ru) (r : Ru) (w : World) (hb : n ≤ 1048576) (hn1 : n1 ≤ 1048576) (hs : r.2.size ≤ maxLen) (h : RulesAt w w.heap.size (some ⟨b, o, none⟩) n rs) (h' : NumAt w w.heap.size A1 n1 r.1) :
    Calls Try.prog 18 #[.slice (some ⟨b, o, none⟩) n c, .agg #[.slice A1 n1 c1, .string r.2]] w (AOut (addZ rs r) (addC rs r) w) := by
  obtain ⟨iR, hiR, hzR0, hzR1, hzR2⟩ := info_parts info_rule
  have HL := Lib.hid h.1
  have HL1 := Lib.hid h'.1
  obtain ⟨W1, hW1⟩ : ∃ W1, W1 = w.alloc (.cells #[.slice A1 n1 c1, .string r.2] 39) := ⟨_, rfl⟩
  have HPA : Hid (PairAt W1 w.heap.size (.slice A1 n1 c1) (.string r.2)) := Lib.hid (by rw [hW1]; exact PairAt.new w _ _ _)
  have hBA : Below w.heap.size w W1 := by rw [hW1]; exact alloc_below _ _
  have HB1 := Lib.hid hBA
  have hs1 := hBA.size
  have HR1 := Lib.hid ((h.below hBA (Nat.le_refl _)).more hs1)
  have HN1 := Lib.hid ((h'.below hBA (Nat.le_refl _)).more hs1)
  have CT := Lib.hid (cIsTable_spec (some ⟨b, o, none⟩) n c _ rs W1 (by unfold maxLen; omega) HR1.out (Nat.le_refl _))
  have CI := Lib.hid (fun (W : World) (hW : Below W1.heap.size W1 W) => cIsRule_spec A1 n1 c1 W1.heap.size r W (by unfold maxLen; omega) hs (HN1.out.below hW (Nat.le_refl _)) hW.size)
  clear h h' hBA
  cases ht : tableB rs
  · have he := add_bad (rs := rs) (r := r) (by unfold addOk; rw [ht]; rfl)
    rw [he.1, he.2]
    rw [ht] at CT
    clear ht he
    go_enter Try.func18, Try.ntmps18
    go_wp2_with fail
    rw [← hW1]
    clear hW1
    refine CT.out.mono ?_
    rintro e w1 ⟨rfl, hb1⟩
    go_wp2_with fail
    go_ret2
    exact .inl ⟨rfl, rfl, HB1.out.trans (hb1.mono HB1.out.size)⟩
  have HT := Lib.hid ht
  rw [ht] at CT
  cases hr : ruleB r
  · have he := add_bad (rs := rs) (r := r) (by unfold addOk; rw [ht, hr]; rfl)
    rw [he.1, he.2]
    rw [hr] at CI
    clear ht he hr
    go_enter Try.func18, Try.ntmps18
    go_wp2_with fail
    rw [← hW1]
    clear hW1
    refine CT.out.mono ?_
    rintro e w1 ⟨rfl, hb1⟩
    obtain ⟨l1, a0, a1⟩ := HPA.out.below hb1
    go_wp2_with (go_at_call 36; refine (CI.out _ hb1).mono ?_; rintro e w2 ⟨rfl, hb2⟩)
    go_ret2
    exact .inl ⟨rfl, rfl, HB1.out.trans ((hb1.trans (hb2.mono hb1.size)).mono HB1.out.size)⟩
  have hkl := rule_signs hr
  have HR0 := Lib.hid (signs_len hkl).1
  have hok : addOk rs r = true := by unfold addOk; rw [ht, hr]; rfl
  have HOK := Lib.hid hok
  have HTAB := Lib.hid (addL_table hok)
  rw [hr] at CI
  obtain ⟨es0, hes0, hat0⟩ := HR1.out.cels
  have HE0 := Lib.hid hes0
  have HAT := Lib.hid hat0
  have hel0 : es0.length = n := by have h9 := congrArg List.length hes0; unfold ruC at h9; rw [List.length_map] at h9; rw [h9, HL.out]
  have HEL := Lib.hid hel0
  have CFd := Lib.hid (fun (W : World) (hW : Below W1.heap.size W1 W) => cFindK (some ⟨b, o, none⟩) A1 n n1 c c1 W1.heap.size W1.heap.size rs r.1 W (by unfold maxLen; omega) (by unfold maxLen; omega) (HR1.out.below hW (Nat.le_refl _)) (HN1.out.below hW (Nat.le_refl _)))
  have HNU : Hid (∀ W, Below W1.heap.size W1 W → ∀ e ∈ es0, NumAt W W.heap.size e.1 e.2.1 e.2.2.2.1 ∧ e.2.1 ≤ maxLen ∧ e.2.2.2.2.size ≤ maxLen) := Lib.hid (fun W hW e he => by
    obtain ⟨i, hi⟩ := List.getElem?_of_mem he
    obtain ⟨_, _, h3, h4, h5⟩ := HAT.out i e hi
    exact ⟨(h3.below hW (Nat.le_refl _)).more hW.size, h4, h5⟩)
  have hl30 := table_len HT.out
  rw [← HL.out] at hl30
  clear ht hr hkl hok hes0 hat0 hel0
  go_enter Try.func18, Try.ntmps18
  go_wp2_with fail
  rw [← hW1]
  clear hW1
  refine CT.out.mono ?_
  rintro e w1 ⟨rfl, hb1⟩
  obtain ⟨l1, a0, a1⟩ := HPA.out.below hb1
  go_wp2_with (first
    | (go_at_call 36; refine (CI.out _ hb1).mono ?_; rintro e w2 ⟨rfl, hb2⟩)
    | (at_builtin; refine wpList_append_own _ rfl _ _ 27 rfl w2.heap.size 39 iR _ 2 40 Try.underlying27 hiR hzR0 hzR1 hzR2 rfl (by decide) _ 0 _ rfl (World.ownsRow_lit (e := 39) (base := w2.heap.size) (size := 2) w2 #[] 0 (Nat.le_refl _) (by decide) rfl) ⟨b, o, none⟩ n c (celsV es0) rfl ?c1 ?c2 (cels_one es0) ?c3 ?c4 ?c5 ?_))
  case c1 => rw [celsV_len, HEL.out]
  case c2 =>
    refine cels_lie fun i e he => ?_
    have h9 := HAT.out i e he
    have hb12 : Below W1.heap.size W1 w2 := hb1.trans (hb2.mono hb1.size)
    have hb13 := hb12.alloc hb12.size (.cells #[] 39)
    have hbl : b < W1.heap.size := World.block_lt_of_cell? W1 _ h9.1
    exact ⟨(hb13.cell (p := ⟨b, o + i * 2, none⟩) hbl).trans h9.1, (hb13.cell (p := ⟨b, o + i * 2 + 1, none⟩) hbl).trans h9.2.1⟩
  case c3 => unfold maxLen; omega
  case c4 => omega
  case c5 => simp
  intro v3 w3 hown3 hgrow3 hnil3
  obtain ⟨g3, c3, rfl, hg3, hgl3⟩ := row_some hown3 hnil3
  have hb12 : Below W1.heap.size W1 w2 := hb1.trans (hb2.mono hb1.size)
  have hb23 : Below w2.heap.size w2 w3 := ((Below.refl _ w2).alloc (Nat.le_refl _) _).grown hgrow3 (by simp) (by intro k hk; simp [Value.ownBlock] at hk; omega)
  have hb13 := hb12.trans (hb23.mono hb12.size)
  have HB13 := Lib.hid hb13
  obtain ⟨l3, a3, d3⟩ := HPA.out.below hb13
  have HO3 := Lib.hid hown3
  have hs12 := hb12.size
  have hl1 := HPA.out.1
  have hg31 : W1.heap.size ≤ g3 := by omega
  clear hown3 hgrow3 hnil3 hb12 hb23 hb13 hb1 hb2 l1 a0 a1
  by_cases hm : r.1 ∈ keys rs
  · have hfit : addFits rs r = true := by unfold addFits; rw [decide_eq_true hm]; rfl
    have hgd := add_good HOK.out hfit
    rw [addL_found hm] at hgd
    rw [addL_found hm, hfit] at HTAB
    obtain ⟨p, hp⟩ : ∃ p, p = posK (keys rs) r.1 := ⟨_, rfl⟩
    have hpl := posK_lt (keys rs) r.1 hm
    rw [keys_len, ← hp] at hpl
    rw [← hp] at HTAB hgd
    have HGD := Lib.hid hgd
    have hfd : findK (keys rs) r.1 = (p : Int) := by unfold findK; rw [if_pos hm, hp]
    have CF3 := Lib.hid (CFd.out w3 HB13.out)
    rw [hfd] at CF3
    have hpn : p < n := by rw [HL.out]; exact hpl.1
    obtain ⟨e0, he0⟩ : ∃ e, es0[p]? = some e := ⟨es0[p]'(by rw [HEL.out]; exact hpn), List.getElem?_eq_getElem _⟩
    have hce := HAT.out p e0 he0
    have hbl : b < W1.heap.size := World.block_lt_of_cell? W1 _ hce.1
    have k3 := (HB13.out.cell (p := ⟨b, o + p * 2, none⟩) hbl).trans hce.1
    have hat := HO3.out.cellAt (p * 2) (by omega)
    have hat1 := HO3.out.cellAt (p * 2 + 1) (by omega)
    rw [(celsV_at es0 p e0 he0).1] at hat
    rw [(celsV_at es0 p e0 he0).2] at hat1
    have hf0 := HO3.out.frozenAt (p * 2)
    have hf1 := HO3.out.frozenAt (p * 2 + 1)
    have hx1 : e0.2.2.2.1 = r.1 := by
      have h1 := hpl.2
      have h2 : (keys rs)[p]? = some e0.2.2.2.1 := keys_at (by rw [← HE0.out]; unfold ruC; rw [List.getElem?_map, he0]; rfl)
      rw [h2] at h1
      exact Option.some.inj h1
    have HX1 := Lib.hid hx1
    have HEI := Lib.hid he0
    have e1 : (0 : Int) ≤ (p : Int) := by omega
    have e2 : (p : Int) < (n : Int) := by omega
    have hbg : b ≠ g3 := by omega
    have hwg : w.heap.size ≠ g3 := by omega
    clear hfit hgd hp hm hpl hfd he0 hce hx1
    go_wp2_with (go_at_call 25; refine CF3.out.mono ?_; rintro e w4 ⟨rfl, m, rfl⟩)
    have k4 : (w3.drewN m).cell? ⟨b, o + p * 2, none⟩ = some (.slice e0.1 e0.2.1 e0.2.2.1) := k3
    have a4 : (w3.drewN m).cell? ⟨w.heap.size, 1, none⟩ = some (.string r.2) := d3
    have q4 : (w3.drewN m).cell? ⟨g3, p * 2, none⟩ = some (.slice e0.1 e0.2.1 e0.2.2.1) := hat
    have q5 : (w3.drewN m).cell? ⟨g3, p * 2 + 1, none⟩ = some (.string e0.2.2.2.2) := hat1
    have q6 : (w3.drewN m).frozen? ⟨g3, p * 2, none⟩ = false := hf0
    have q7 : (w3.drewN m).frozen? ⟨g3, p * 2 + 1, none⟩ = false := hf1
    go_region_held3 (fun W => W.cell? ⟨b, o + p * 2, none⟩ = some (.slice e0.1 e0.2.1 e0.2.2.1) ∧ W.cell? ⟨w.heap.size, 1, none⟩ = some (.string r.2))
      (first | (exact ⟨k4, a4⟩) | (exact TwoB.set (by assumption) _ _ _ _ _ hbg hwg) | assumption)
      (fail)
    have hb5 : Below W1.heap.size W1 (((w3.drewN (m + 1)).setCell ⟨g3, p * 2, none⟩ (.slice e0.1 e0.2.1 e0.2.2.1)).setCell ⟨g3, p * 2 + 1, none⟩ (.string r.2)) := ((below_drewR HB13.out (m + 1)).setCell (p := ⟨g3, p * 2, none⟩) hg31 _).setCell (p := ⟨g3, p * 2 + 1, none⟩) hg31 _
    have hown5 := ((World.ownsRow.stored (w := w3.drewN (m + 1)) HO3.out (p * 2) (.slice e0.1 e0.2.1 e0.2.2.1)).1.stored (p * 2 + 1) (.string r.2)).1
    rw [celsV_set (e := e0) HEI.out (e0.1, e0.2.1, e0.2.2.1, r)] at hown5
    obtain ⟨Ar, cr, hv, hct, hco⟩ := tailC hb hown5 (fun e he => by
      rcases List.mem_or_eq_of_mem_set he with he | rfl
      · exact HNU.out _ hb5 e he
      · have h9 := HNU.out _ hb5 e0 (List.mem_of_getElem? HEI.out)
        rw [HX1.out] at h9
        exact ⟨h9.1, h9.2.1, hs⟩)
    cases hv
    have hru : ruC (es0.set p (e0.1, e0.2.1, e0.2.2.1, r)) = rs.set p r := by
      have h9 := HE0.out
      unfold ruC at h9 ⊢
      rw [List.map_set, h9]
    rw [hru, HTAB.out] at hct
    rw [hru] at hco
    have HCT := Lib.hid hct
    have HCO := Lib.hid hco
    have HB5 := Lib.hid hb5
    clear hb5 hown5 hct hco hru k4 a4 q4 q5 q6 q7 k3 a3 d3 hat hat1 hf0 hf1
    go_wp2_with fail
    refine HCT.out.mono ?_
    rintro e w6 ⟨rfl, hb6⟩
    go_wp2_with fail
    refine (HCO.out _ hb6 HTAB.out).mono ?_
    rintro e w7 ⟨g7, c7, es7, rfl, h7, h8, hb7⟩
    have hb16 := HB5.out.trans (hb6.mono HB5.out.size)
    have HF : Hid (AOut (addZ rs r) (addC rs r) w (.returned (.tuple #[.slice (some ⟨g7, 0, none⟩) n c7, .int .i64 0])) w7) := Lib.hid (by
      rw [HGD.out.1, HGD.out.2]
      exact AOut.mk h8 (Nat.le_trans HB1.out.size hb16.size) h7 (HB1.out.trans ((hb16.trans (hb7.mono hb16.size)).mono HB1.out.size)))
    clear h7 h8 hb7 hb16 hb6
    go_wp2_with fail
    go_ret2
    exact HF.out
  · have hfd : findK (keys rs) r.1 = -1 := findK_miss _ _ hm
    have CF3 := Lib.hid (CFd.out w3 HB13.out)
    rw [hfd] at CF3
    rw [addL_new hm] at HTAB
    obtain ⟨b1, o1, rfl, _, _⟩ := HN1.out.2 (by rw [HL1.out]; exact HR0.out)
    have h1n : 1 ≤ n1 := by rw [HL1.out]; exact HR0.out
    have C1 := Lib.hid (fun (W : World) (hW : Below w3.heap.size w3 W) => cOwn1 b1 o1 n1 c1 r.1 W h1n hn1 ((HN1.out.below (HB13.out.trans (hW.mono HB13.out.size)) (Nat.le_refl _)).more (Nat.le_trans HB13.out.size hW.size)))
    have HADD : Hid (addFits rs r = true → addZ rs r = rs ++ [r] ∧ addC rs r = 0) := Lib.hid (fun h => by have := add_good HOK.out h; rw [addL_new hm] at this; exact this)
    have HFULL : Hid (addFits rs r = false → addZ rs r = [] ∧ addC rs r = 5) := Lib.hid (fun h => add_full HOK.out h)
    have hwg : w.heap.size ≠ g3 := by omega
    clear hm hfd
    go_wp2_with (go_at_call 25; refine CF3.out.mono ?_; rintro e w4 ⟨rfl, m, rfl⟩)
    have a4 : (w3.drewN m).cell? ⟨w.heap.size, 0, none⟩ = some (.slice (some ⟨b1, o1, none⟩) n1 c1) := a3
    have d4 : (w3.drewN m).cell? ⟨w.heap.size, 1, none⟩ = some (.string r.2) := d3
    have l4 : w.heap.size < (w3.drewN m).heap.size := l3
    go_region_held3 (fun W => W.cell? ⟨w.heap.size, 0, none⟩ = some (.slice (some ⟨b1, o1, none⟩) n1 c1) ∧ W.cell? ⟨w.heap.size, 1, none⟩ = some (.string r.2) ∧ w.heap.size < W.heap.size)
      (first | (exact ⟨a4, d4, l4⟩) | (exact TwoC.keep (by assumption) hb5) | (exact TwoC.keep (by assumption) (alloc_below _ _)) | (exact TwoC.grown (by assumption) hgrow6 (by simp [Value.ownBlock]; omega)) | assumption)
      (first
        | (go_at_call 37; (refine (C1.out _ (below_drewR (below_drewR (Below.refl _ _) m) 1)).mono ?_; rintro e w5 ⟨g1, cg, rfl, own1, hg1, hgl1, hb5⟩))
        | ((refine step_append_lies _ (by rfl) _ _ _ (by rfl) w2.heap.size 39 iR _ 2 40 Try.underlying27 hiR hzR0 hzR1 hzR2 rfl (by decide) (.slice (some ⟨g3, 0, none⟩) n c3) n _ (by rfl) (World.ownsRow.alloc (ownsRow_keep HO3.out (Below.trans (below_drewR (below_drewR (Below.refl _ _) m) 1) (hb5.mono (Nat.le_refl _)))) _) ⟨w5.heap.size, 0, none⟩ 1 1 [.slice (some ⟨g1, 0, none⟩) n1 cg, .string r.2] (by rfl) (by rfl) (World.news_of_block (cs := #[.slice (some ⟨g1, 0, none⟩) n1 cg, .string r.2]) (t := 39) (fr := (0, 0)) (heap_alloc_new w5 _)) (by simp [Value.oneCell']) (by decide) (by unfold maxLen; omega) (by omega) (by have := hb5.size; simp at this ⊢; omega) (w5.heap.size + 1) (by simp) ?_; intro gg cap' w6 hown6 hgrow6 hor6 hlt6)))
    have hb35 : Below w3.heap.size w3 w5 := Below.trans (below_drewR (below_drewR (Below.refl _ _) m) 1) (hb5.mono (Nat.le_refl _))
    have hb15 := HB13.out.trans (hb35.mono HB13.out.size)
    have hs15 := hb15.size
    have hb16 : Below W1.heap.size W1 w6 := (hb15.alloc hb15.size _).grown hgrow6 (by simp; omega) (fun j hj => by simp [Value.ownBlock] at hj; omega)
    have hg1w : w3.heap.size ≤ g1 := hg1
    have own1' : w5.ownsRow w3.heap.size 2 1 (.slice (some ⟨g1, 0, none⟩) n1 cg) n1 (intV r.1) := own1
    have own6 := ownsRow_block (World.ownsRow.alloc own1' (.cells #[.slice (some ⟨g1, 0, none⟩) n1 cg, .string r.2] 39)) (hgrow6.block g1 (by simp; omega) (by simp [Value.ownBlock]; omega))
    have hown7 : w6.ownsRow w2.heap.size 39 2 (.slice (some ⟨gg, 0, none⟩) (n + 1) cap') (n + 1) (celsV (es0 ++ [(some ⟨g1, 0, none⟩, n1, cg, r)])) := by rw [celsV_app, celsV_cons]; exact hown6
    obtain ⟨Ar, cr, hv, hct, hco⟩ := tailC (by omega) hown7 (fun e he => by
      rcases List.mem_append.1 he with he | he
      · exact HNU.out _ hb16 e he
      · rw [List.mem_singleton] at he
        subst he
        exact ⟨numAt_own own6, by unfold maxLen; show n1 ≤ _; omega, hs⟩)
    cases hv
    have hru : ruC (es0 ++ [(some ⟨g1, 0, none⟩, n1, cg, r)]) = rs ++ [r] := by
      have h9 := HE0.out
      unfold ruC at h9 ⊢
      rw [List.map_append, h9]; rfl
    rw [hru, HTAB.out] at hct
    rw [hru, HTAB.out] at hco
    have HCO := Lib.hid hco
    have HB16 := Lib.hid hb16
    clear own1 own1' own6 hown7 hown6 hgrow6 hor6 hb5 hb35 hb15 hb16 hco hru
    cases hf : addFits rs r
    · rw [hf] at hct
      have HZ := Lib.hid (HFULL.out hf)
      have HCT := Lib.hid hct
      clear hct hf
      go_wp2_with fail
      refine HCT.out.mono ?_
      rintro e w7 ⟨rfl, hb7⟩
      go_wp2_with fail
      go_ret2
      rw [HZ.out.1, HZ.out.2]
      exact .inl ⟨rfl, rfl, HB1.out.trans ((HB16.out.trans (hb7.mono HB16.out.size)).mono HB1.out.size)⟩
    · rw [hf] at hct
      have HZ := Lib.hid (HADD.out hf)
      have HFT := Lib.hid hf
      have HCT := Lib.hid hct
      clear hct hf
      go_wp2_with fail
      refine HCT.out.mono ?_
      rintro e w7 ⟨rfl, hb7⟩
      go_wp2_with fail
      refine (HCO.out _ hb7 HFT.out).mono ?_
      rintro e w8 ⟨g8, c8, es8, rfl, h7, h8, hb8⟩
      have hb17 := HB16.out.trans (hb7.mono HB16.out.size)
      have HF : Hid (AOut (addZ rs r) (addC rs r) w (.returned (.tuple #[.slice (some ⟨g8, 0, none⟩) (n + 1) c8, .int .i64 0])) w8) := Lib.hid (by
        rw [HZ.out.1, HZ.out.2]
        exact AOut.mk h8 (Nat.le_trans HB1.out.size hb17.size) h7 (HB1.out.trans ((hb17.trans (hb8.mono hb17.size)).mono HB1.out.size)))
      clear h7 h8 hb8 hb17 hb7
      go_wp2_with fail
      go_ret2
      exact HF.out
end Go.Proofs.Ytmelbfpdahaahaa
