/-
  The contract of impl.AddRule.
-/
import Derived.Test.YtmelbfpdahaahaaAddPlain
import Derived.Deep.AppendLies
namespace Go.Proofs.Ytmelbfpdahaahaa
set_option linter.unusedVariables false
open Go.RowKit Go.Maps Go.WideMaps

theorem table_bounds {rs : List Ru} (h : tableB rs = true) : ∀ r ∈ rs, 1 ≤ r.1.length ∧ r.1.length ≤ 1048576 := fun r hr => by
  have := signs_len (rule_signs (goodT_mem (table_good h) hr)); omega
theorem KDict.look2 {w : World} {b n : Nat} {f : List Int → Option Int} (h : KDict w b n f) {xs : List Int} (hx : KeyList xs) :
    (Instr.lookup 51 (.map (some b)) (.agg #[.int .i64 (kd xs 0), .int .i64 (kd xs 1), .int .i64 (kd xs 2)]) true).run Try.prog w = .ok (.tuple #[.int .i64 ((f xs).getD 0), .bool (f xs).isSome]) w := h.look hx

set_option maxHeartbeats 4000000 in
set_option maxRecDepth 100000 in
theorem cAddI (A A1 : Option Addr) (n c n1 c1 : Nat) (rs : List Ru) (r : Ru) (w : World) (hb : n ≤ 1048576) (hn1 : n1 ≤ 1048576) (hs : r.2.size ≤ maxLen) (h : RulesAt w w.heap.size A n rs) (h' : NumAt w w.heap.size A1 n1 r.1) :
    Calls Try.prog 20 #[.slice A n c, .agg #[.slice A1 n1 c1, .string r.2]] w (AOut (addZ rs r) (addC rs r) w) := by
  obtain ⟨iR, hiR, hzR0, hzR1, hzR2⟩ := info_parts info_rule
  have HL := Lib.hid h.1
  have HL1 := Lib.hid h'.1
  obtain ⟨W1, hW1⟩ : ∃ W1, W1 = w.alloc (.cells #[.slice A1 n1 c1, .string r.2] 39) := ⟨_, rfl⟩
  have HPA : Hid (PairAt W1 w.heap.size (.slice A1 n1 c1) (.string r.2)) := Lib.hid (by rw [hW1]; exact PairAt.new w _ _ _)
  have hBA : Below w.heap.size w W1 := by rw [hW1]; exact alloc_below _ _
  have HB1 := Lib.hid hBA
  have hs1 := hBA.size
  have HR1 := Lib.hid ((h.below hBA (Nat.le_refl _)).more hs1)
  have HN1 := Lib.hid ((h'.below hBA (Nat.le_refl _)).more hs1)
  have CF := Lib.hid (cFinder A n c rs W1 (by unfold maxLen; omega) HR1.out)
  have CI := Lib.hid (fun (W : World) (hW : Below W1.heap.size W1 W) => cIsRule_impl A1 n1 c1 W1.heap.size r W (by unfold maxLen; omega) hs (HN1.out.below hW (Nat.le_refl _)) hW.size)
  clear h h' hBA
  cases ht : tableB rs
  · have he := add_bad (rs := rs) (r := r) (by unfold addOk; rw [ht]; rfl)
    rw [he.1, he.2]
    rw [ht] at CF
    clear ht he
    go_enter Try.func20, Try.ntmps20
    go_wp2_with fail
    rw [← hW1]
    clear hW1
    refine (show Calls Try.prog _ _ _ (fun e w' => e = .returned (.tuple #[.map none, .bool false]) ∧ _ ∧ Below W1.heap.size W1 w') from CF.out).mono ?_
    rintro e w1 ⟨rfl, _, hb1⟩
    go_wp2_with fail
    go_ret2
    exact .inl ⟨rfl, rfl, HB1.out.trans (hb1.mono HB1.out.size)⟩
  have HT := Lib.hid ht
  have CF2 : Hid (Calls Try.prog 30 #[.slice A n c] W1 (fun e w' => e = .returned (.tuple #[.map (some W1.heap.size), .bool true]) ∧ (tableB rs = true → KDict w' W1.heap.size n (placeK (keys rs))) ∧ Below W1.heap.size W1 w')) := Lib.hid (CF.out.mono fun e w' h => ⟨by rw [h.1, HT.out]; rfl, h.2⟩)
  clear CF
  cases hr : ruleB r
  · have he := add_bad (rs := rs) (r := r) (by unfold addOk; rw [ht, hr]; rfl)
    rw [he.1, he.2]
    rw [hr] at CI
    clear ht he hr
    go_enter Try.func20, Try.ntmps20
    go_wp2_with fail
    rw [← hW1]
    clear hW1
    refine CF2.out.mono ?_
    rintro e w1 ⟨rfl, _, hb1⟩
    obtain ⟨l1, a0, a1⟩ := HPA.out.below hb1
    go_wp2_with (go_at_call 40; refine (CI.out _ hb1).mono ?_; rintro e w2 ⟨rfl, hb2⟩)
    go_ret2
    exact .inl ⟨rfl, rfl, HB1.out.trans ((hb1.trans (hb2.mono hb1.size)).mono HB1.out.size)⟩
  have hkl := rule_signs hr
  have HK := Lib.hid (keyList_of hkl (signs_len hkl).2)
  have HR0 : Hid (1 ≤ r.1.length) := Lib.hid (signs_len hkl).1
  have hok : addOk rs r = true := by unfold addOk; rw [ht, hr]; rfl
  have HOK := Lib.hid hok
  rw [hr] at CI
  have HCC := Lib.hid (fun (W : World) (hW : Below W1.heap.size W1 W) => cCopyRs A n c rs W hb (table_bounds HT.out) ((HR1.out.below hW (Nat.le_refl _)).more hW.size))
  have CK := Lib.hid (fun (W : World) (hW : Below W1.heap.size W1 W) => cKeyOf A1 n1 c1 r.1 W HK.out.1 ((HN1.out.below hW (Nat.le_refl _)).more hW.size))
  clear ht hr hkl hok
  by_cases hm : r.1 ∈ keys rs
  · have hgd := add_good HOK.out (show addFits rs r = true by unfold addFits; rw [decide_eq_true hm]; rfl)
    rw [hgd.1, hgd.2, addL_found hm]
    obtain ⟨p, hp⟩ : ∃ p, p = posK (keys rs) r.1 := ⟨_, rfl⟩
    have hpl := (posK_lt (keys rs) r.1 hm).1
    rw [keys_len, ← hp] at hpl
    have hpk : placeK (keys rs) r.1 = some (p : Int) := by unfold placeK; rw [if_pos hm, hp]
    rw [← hp]
    have HPK := Lib.hid hpk
    have hpn : p < n := by rw [HL.out]; exact hpl
    clear hgd hp hm hpl hpk
    go_enter Try.func20, Try.ntmps20
    go_wp2_with fail
    rw [← hW1]
    clear hW1
    refine CF2.out.mono ?_
    rintro e w1 ⟨rfl, hD1, hb1⟩
    have HD1 := Lib.hid (hD1 HT.out)
    clear hD1
    obtain ⟨l1, a0, a1⟩ := HPA.out.below hb1
    go_wp2_with fail
    refine (CI.out _ hb1).mono ?_
    rintro e w2 ⟨rfl, hb2⟩
    have hb12 := hb1.trans (hb2.mono hb1.size)
    have HD2 := Lib.hid (HD1.out.below hb2)
    obtain ⟨l2, c0, d0⟩ := HPA.out.below hb12
    clear a0 a1 l1
    go_wp2_with (go_at_call 32; refine (CK.out _ hb12).mono ?_; rintro e w3 ⟨rfl, hb3⟩; have hl := (HD2.out.below hb3).look2 HK.out; rw [HPK.out] at hl; simp only [Option.getD_some, Option.isSome_some] at hl; unfold keyV)
    have hb13 := hb12.trans (hb3.mono hb12.size)
    have HB13 := Lib.hid hb13
    have hs13 := hb13.size
    clear hb1 hb2 hb3 hb12 l2 c0 d0
    refine (HCC.out _ HB13.out).mono ?_
    rintro e w4 ⟨es, rfl, hes, hown, hb4⟩
    have hb14 := HB13.out.trans (hb4.mono hs13)
    obtain ⟨l4, a4, d4⟩ := HPA.out.below hb14
    obtain ⟨x, hx⟩ : ∃ x, rs[p]? = some x := ⟨rs[p]'(by have := HL.out; omega), List.getElem?_eq_getElem _⟩
    obtain ⟨e, he, hex⟩ := rulesOf_at hes hx
    have hel := hown.1
    have hat := hown.outer.cellAt (p * 2 + 1) (by omega)
    rw [(elsV_at es p e he).2] at hat
    have hfz := hown.outer.frozenAt (p * 2 + 1)
    have HSET := Lib.hid (hown.setText he r.2)
    have hB4 := HB1.out.trans (hb14.mono HB1.out.size)
    have HB5 := Lib.hid ((hb4.setCell (p := ⟨w3.heap.size, p * 2 + 1, none⟩) (Nat.le_refl _) (.string r.2)))
    have hxr : x.1 = r.1 := by
      have h1 := keys_at hx
      have h2 := HPK.out
      obtain ⟨q, hq, _, hqk⟩ := placeK_pos h2
      have : p = q := by omega
      subst this
      rw [h1] at hqk
      exact Option.some.inj hqk
    have HRS : Hid (rulesOf (es.set p (e.1, e.2.1, (e.2.2.1, r.2))) = rs.set p r) := Lib.hid (by
      rw [show ((e.1, e.2.1, (e.2.2.1, r.2)) : El) = (e.1, e.2.1, r) by rw [hex, hxr]]
      unfold rulesOf at hes ⊢
      rw [List.map_set, hes])
    have HB13b := Lib.hid (HB1.out.trans (HB13.out.mono HB1.out.size))
    have e1 : (0 : Int) ≤ (p : Int) := by omega
    have e2 : (p : Int) < (n : Int) := by omega
    clear hes hown hb4 hb14 hx he hex hel hB4 hxr
    go_wp2_with fail
    go_ret2
    exact AOut.mk HSET.out (by have := HB1.out.size; omega) HRS.out (HB13b.out.trans (HB5.out.mono (by have := HB13b.out.size; omega)))
  have hpk : placeK (keys rs) r.1 = none := by unfold placeK; rw [if_neg hm]
  have HPK := Lib.hid hpk
  have hl30 := table_len HT.out
  rw [← HL.out] at hl30
  by_cases hn : n < 30
  · have hgd := add_good HOK.out (show addFits rs r = true by unfold addFits; rw [decide_eq_true (show rs.length < 30 by have := HL.out; omega)]; simp)
    rw [hgd.1, hgd.2, addL_new hm]
    have hd1 : ((n : Int) == 30) = false := by simp; omega
    have hd2 : (n == 30) = false := by simp; omega
    clear hgd hm hpk
    go_enter Try.func20, Try.ntmps20
    go_wp2_with fail
    rw [← hW1]
    clear hW1
    refine CF2.out.mono ?_
    rintro e w1 ⟨rfl, hD1, hb1⟩
    have HD1 := Lib.hid (hD1 HT.out)
    clear hD1
    obtain ⟨l1, a0, a1⟩ := HPA.out.below hb1
    go_wp2_with fail
    refine (CI.out _ hb1).mono ?_
    rintro e w2 ⟨rfl, hb2⟩
    have hb12 := hb1.trans (hb2.mono hb1.size)
    have HD2 := Lib.hid (HD1.out.below hb2)
    obtain ⟨l2, c0, d0⟩ := HPA.out.below hb12
    clear a0 a1 l1
    go_wp2_with (go_at_call 32; refine (CK.out _ hb12).mono ?_; rintro e w3 ⟨rfl, hb3⟩; have hl := (HD2.out.below hb3).look2 HK.out; rw [HPK.out] at hl; simp only [Option.getD_none, Option.isSome_none] at hl; unfold keyV)
    have hb13 := hb12.trans (hb3.mono hb12.size)
    have HB13 := Lib.hid hb13
    have hs13 := hb13.size
    clear hb1 hb2 hb3 hb12 l2 c0 d0 hl
    refine (HCC.out _ HB13.out).mono ?_
    rintro e w4 ⟨es, rfl, hes, hown, hb4⟩
    have hb14 := HB13.out.trans (hb4.mono hs13)
    have HB14 := Lib.hid hb14
    have hs4 := hb4.size
    obtain ⟨l4, a4, d4⟩ := HPA.out.below hb14
    obtain ⟨W5, hW5⟩ : ∃ W5, W5 = w4.alloc (.cells #[.slice A1 n1 c1, .string r.2] 39) := ⟨_, rfl⟩
    have hP5 : PairAt W5 w4.heap.size (.slice A1 n1 c1) (.string r.2) := by rw [hW5]; exact PairAt.new w4 _ _ _
    have hb5 : Below w4.heap.size w4 W5 := by rw [hW5]; exact alloc_below _ _
    have hs5 := hb5.size
    have HB15 := Lib.hid (HB14.out.trans (hb5.mono HB14.out.size))
    have hn5 := (HN1.out.below HB15.out (Nat.le_refl _)).more HB15.out.size
    have hr5 : RulesAt W5 W5.heap.size (some ⟨w4.heap.size, 0, none⟩) 1 [r] := ⟨rfl, fun _ => ⟨w4.heap.size, 0, rfl, hP5.1, fun j y hy => by
      match j, hy with
      | 0, hy =>
        obtain rfl : r = y := by simpa using hy
        exact ⟨A1, n1, c1, hP5.2.1, hP5.2.2, hn5, by unfold maxLen; omega, hs⟩⟩⟩
    have C2 := Lib.hid (cCopyRs (some ⟨w4.heap.size, 0, none⟩) 1 1 [r] W5 (by omega) (fun y hy => by
      rw [List.mem_singleton] at hy; subst hy
      have := HL1.out
      have hk9 := HK.out.1
      have : 1 ≤ y.1.length := HR0.out
      omega) hr5)
    have HES := Lib.hid hes
    have HO4 := Lib.hid hown
    have HO5 := Lib.hid (hown.below hb5)
    have HB4 := Lib.hid hb4
    have HB5 := Lib.hid hb5
    clear hes hown hb4 hb14 hP5 hb5 hn5 hr5
    go_wp2_with fail
    rw [← hW5]
    clear hW5
    refine C2.out.mono ?_
    rintro e w6 ⟨es2, rfl, hes2, hown2, hb6⟩
    have HES2 := Lib.hid hes2
    have HO62 := Lib.hid hown2
    have HO6 := Lib.hid (HO5.out.below hb6)
    have hs6 := hb6.size
    have HB6 := Lib.hid hb6
    have hl2 : (elsV es2).length = 1 * 2 := by rw [elsV_len, hown2.1]
    have HL2 := Lib.hid hl2
    clear hes2 hown2 hb6 hl2
    go_wp2_with (at_builtin; refine wpList_append_lies _ rfl _ _ 27 rfl w3.heap.size 39 iR _ 2 40 Try.underlying27 hiR hzR0 hzR1 hzR2 rfl (by decide) _ n _ rfl HO6.out.outer ⟨W5.heap.size, 0, none⟩ 1 1 (elsV es2) rfl HL2.out ?c1 (elsV_one es2) (by omega) ?c2 ?c3 ?c4 w6.heap.size rfl ?_)
    case c1 =>
      intro j u hu
      rw [add_plain', Nat.zero_add]
      exact (HO62.out.outer.cellAt j (by have := (List.getElem?_eq_some_iff.1 hu).1; have := HL2.out; omega)).trans hu
    case c2 => unfold maxLen; omega
    case c3 => omega
    case c4 => omega
    intro g cap w7 hown7 hgrow7 hor7 hlt7
    have HJ := Lib.hid (OwnR.join HO6.out HO62.out (by omega) (fun b hb => by have := (HO4.out.2.mem_lt b hb).2; omega) hown7 hgrow7 (by
      rcases hor7 with h | h
      · left; simpa [Value.ownBlock] using h
      · exact .inr h))
    have HRS : Hid (rulesOf (es ++ es2) = rs ++ [r]) := Lib.hid (by have h1 := HES.out; have h2 := HES2.out; unfold rulesOf at h1 h2 ⊢; rw [List.map_append, h1, h2])
    have hb37 : Below w3.heap.size w3 w7 := (HB4.out.trans ((HB5.out.trans (HB6.out.mono HB5.out.size)).mono HB4.out.size)).grown hgrow7 (by omega) (fun j hj => by simp [Value.ownBlock] at hj; omega)
    have HB37 := Lib.hid hb37
    clear hown7 hgrow7 hor7 hb37
    go_wp2_with fail
    go_ret2
    exact AOut.mk HJ.out (by have := HB1.out.size; omega) HRS.out (HB1.out.trans ((HB13.out.trans (HB37.out.mono hs13)).mono HB1.out.size))
  · have hff : addFits rs r = false := by
      unfold addFits
      rw [decide_eq_false hm, decide_eq_false (show ¬ rs.length < 30 by have := HL.out; omega)]; rfl
    have hgd := add_full HOK.out hff
    rw [hgd.1, hgd.2]
    have hn30 : n = 30 := by omega
    subst hn30
    clear hgd hm hpk hff
    go_enter Try.func20, Try.ntmps20
    go_wp2_with fail
    rw [← hW1]
    clear hW1
    refine CF2.out.mono ?_
    rintro e w1 ⟨rfl, hD1, hb1⟩
    have HD1 := Lib.hid (hD1 HT.out)
    clear hD1
    obtain ⟨l1, a0, a1⟩ := HPA.out.below hb1
    go_wp2_with fail
    refine (CI.out _ hb1).mono ?_
    rintro e w2 ⟨rfl, hb2⟩
    have hb12 := hb1.trans (hb2.mono hb1.size)
    have HD2 := Lib.hid (HD1.out.below hb2)
    obtain ⟨l2, c0, d0⟩ := HPA.out.below hb12
    clear a0 a1 l1
    go_wp2_with (go_at_call 32; refine (CK.out _ hb12).mono ?_; rintro e w3 ⟨rfl, hb3⟩; have hl := (HD2.out.below hb3).look2 HK.out; rw [HPK.out] at hl; simp only [Option.getD_none, Option.isSome_none] at hl; unfold keyV)
    go_ret2
    exact .inl ⟨rfl, rfl, HB1.out.trans ((hb12.trans (hb3.mono hb12.size)).mono HB1.out.size)⟩
end Go.Proofs.Ytmelbfpdahaahaa
