/-
  The contract of impl.WithoutYears.
-/
import Derived.Test.YthlajgkelggnkaaSets
import Derived.Laws.AppendOwnNone
namespace Go.Proofs.Ythlajgkelggnkaa
set_option linter.unusedVariables false
open Go.RowKit

theorem years_sep {xs : List Sp} (h : yearsB xs = true) : Sep xs := sep_of_chain xs (yearsB_yes h).2
theorem left_upto {xs ys zs : List Sp} (h : Left xs ys ys.length zs) (hx : yearsB xs = true) : Upto false xs ys zs 3001 := by
  refine ⟨h.1, fun z => ?_⟩
  rw [h.2 z, List.take_length]
  have hs := (sep_iff xs).1 (years_sep hx)
  constructor
  · rintro ⟨h1, h2⟩
    obtain ⟨p, hp, h3, h4⟩ := h1
    have := hs.1 p hp
    refine ⟨?_, by omega, by omega⟩
    have a1 : hasB xs z = true := inB_mem.2 ⟨p, hp, h3, h4⟩
    have a2 : hasB ys z = false := by
      cases hb : hasB ys z
      · rfl
      · exact absurd (inB_mem.1 hb) h2
    unfold askB; simp [a1, a2]
  · rintro ⟨h1, _, _⟩
    unfold askB at h1; simp at h1
    exact ⟨inB_mem.1 h1.1, fun hm => by rw [inB_mem.2 hm] at h1; simp at h1⟩
theorem SpanAt.mono_ {w w' : World} {A : Option Addr} {n : Nat} {xs : List Sp} (h : SpanAt w w.heap.size A n xs) (hb : Below w.heap.size w w') : SpanAt w' w'.heap.size A n xs := (h.below hb).more hb.size

set_option maxHeartbeats 4000000 in
set_option maxRecDepth 100000 in
theorem cWithoutYears_impl (b o b' o' n n' cap cap' : Nat) (xs ys : List Sp) (w : World) (hbig : n ≤ 1048576) (hbig' : n' ≤ 1048576) (h : SpanAt w w.heap.size (some ⟨b, o, none⟩) n xs) (h' : SpanAt w w.heap.size (some ⟨b', o', none⟩) n' ys) :
    Calls Try.prog 9 #[.slice (some ⟨b, o, none⟩) n cap, .slice (some ⟨b', o', none⟩) n' cap'] w (SetPost false xs ys w) := by
  obtain ⟨i0, hi0, hz0, hz1, hz2⟩ := info_parts info_span
  have H := Lib.hid h
  have H' := Lib.hid h'
  have C1 := Lib.hid (cAre_impl _ n cap xs w hbig h)
  clear h h'
  cases hx : yearsB xs
  · have HS : Hid (SetIs false xs ys 1 []) := Lib.hid (.inl ⟨by rw [hx]; rfl, rfl, rfl⟩)
    rw [hx] at C1
    clear hx
    go_enter Try.func9, Try.ntmps9
    go_wp2_with fail
    refine C1.out.mono ?_
    rintro e w1 ⟨rfl, hb1⟩
    go_wp2_with fail
    go_ret2
    exact ⟨none, 0, 0, 1, [], rfl, HS.out, rfl, World.ownsRow_nil _ _ _ _, hb1⟩
  rw [hx] at C1
  have C2 := Lib.hid (fun W (hb : Below w.heap.size w W) => cAre_impl _ n' cap' ys W hbig' (H'.out.mono_ hb))
  cases hy : yearsB ys
  · have HS : Hid (SetIs false xs ys 1 []) := Lib.hid (.inl ⟨by rw [hy, Bool.and_false], rfl, rfl⟩)
    rw [hy] at C2
    clear hx hy
    go_enter Try.func9, Try.ntmps9
    go_wp2_with fail
    refine C1.out.mono ?_
    rintro e w1 ⟨rfl, hb1⟩
    go_wp2_with fail
    refine (C2.out _ hb1).mono ?_
    rintro e w2 ⟨rfl, hc2⟩
    have hb2 := hb1.trans (hc2.mono hb1.size)
    go_wp2_with fail
    go_ret2
    exact ⟨none, 0, 0, 1, [], rfl, HS.out, rfl, World.ownsRow_nil _ _ _ _, hb2⟩
  rw [hy] at C2
  have HO : Hid ((yearsB xs && yearsB ys) = true) := Lib.hid (by rw [hx, hy]; rfl)
  have HX := Lib.hid hx
  have HY := Lib.hid hy
  have hn12 : n ≤ 12 := by have := (yearsB_yes hx).1; have := H.out.1; omega
  clear hx hy
  go_enter Try.func9, Try.ntmps9
  go_wp2_with fail
  refine C1.out.mono ?_
  rintro e w1 ⟨rfl, hb1⟩
  go_wp2_with fail
  refine (C2.out _ hb1).mono ?_
  rintro e w2 ⟨rfl, hc2⟩
  have hb2 := hb1.trans (hc2.mono hb1.size)
  go_wp2_with fail
  refine (cClone b o n cap xs w2 hbig (H.out.mono_ hb2)).mono ?_
  rintro e w3 ⟨⟨C, c, rfl, hown⟩, hc3⟩
  have hb3 := hb2.trans (hc3.mono hb2.size)
  have hown3 := ownsRow_base hown hb2.size
  clear hown
  go_wp2_with fail
  go_loopw [6, 24] (fun r i wr => ∃ (k m c : Nat) (C : Option Addr) (zs : List Sp), k ≤ n' ∧ i = .int .i64 k ∧ r = .slice C m c ∧ Hid (m = zs.length) ∧ m ≤ 3001 ∧ Hid (Left xs ys k zs) ∧ wr.ownsRow w.heap.size 30 2 (.slice C m c) m (spanV zs) ∧ Below w.heap.size w wr) (fun _ i _ => n' - (intOf i).toNat)
  case atStart => exact ⟨0, n, c, C, xs, Nat.zero_le _, rfl, rfl, Lib.hid H.out.1.symm, by omega, Lib.hid (Left.start ys (years_sep HX.out)), hown3, hb3⟩
  case round =>
    clear hown3 hb3 hb2 hb1 hc2 hc3
    obtain ⟨k, m, c, C, zs, hk, rfl, rfl, HM, hm1, HL, hown, hbw⟩ := hrel
    by_cases hlt : k < n'
    · obtain ⟨p, hp⟩ : ∃ p, ys[k]? = some p := ⟨ys[k]'(by have := H'.out.1; omega), List.getElem?_eq_getElem _⟩
      obtain ⟨bb, oo, hA, hbl, d0, d1⟩ := (H'.out.below hbw).2 k p hp
      obtain ⟨rfl, rfl⟩ : b' = bb ∧ o' = oo := by injection hA with hA; injection hA with h1 h2; exact ⟨h1, h2⟩
      obtain ⟨u, v⟩ := p
      have hsv := years_mem HY.out _ (List.mem_of_getElem? hp)
      have huv := (spB_bd hsv).2.1
      have HLN : ∀ ps, ps = zs.flatMap (cutS u v) → Hid (Left xs ys (k + 1) ps) := fun ps hps => Lib.hid (by rw [hps]; exact HL.out.step hp huv)
      have HN := Lib.hid HLN
      have HV := Lib.hid hsv
      have hg := BoxAt.new wr u v 30
      have hownA := hown.alloc (.cells #[.int .i64 u, .int .i64 v] 30)
      have hbA := hbw.alloc hbw.size (.cells #[.int .i64 u, .int .i64 v] 30)
      clear hp hA hsv huv HLN hown
      go_wp2_with fail
      obtain ⟨G, hG⟩ : ∃ G, G = wr.heap.size := ⟨_, rfl⟩
      have hGw : w.heap.size ≤ G := by rw [hG]; exact hbw.size
      rw [← hG] at hg ⊢
      have HG := Lib.hid hg
      have HOW := Lib.hid hownA
      clear hg hownA hbw hG d0 d1
      go_loopw [9, 30] (fun q i wi => ∃ (j l c' : Nat) (D : Option Addr) (ps : List Sp), j ≤ m ∧ i = .int .i64 j ∧ q = .slice D l c' ∧ Hid (l = ps.length) ∧ l ≤ j * 2 ∧ Hid (ps = (zs.take j).flatMap (cutS u v)) ∧ wi.ownsRow w.heap.size 30 2 (.slice D l c') l (spanV ps) ∧ Hid (BoxAt wi G u v) ∧ Hid (wi.ownsRow w.heap.size 30 2 (.slice C m c) m (spanV zs) ∧ (∀ x, (Value.slice D l c').ownBlock = some x → (Value.slice C m c).ownBlock ≠ some x ∧ x ≠ G)) ∧ Below w.heap.size w wi) (fun _ i _ => m - (intOf i).toNat)
      case atStart => exact ⟨0, 0, 0, none, [], Nat.zero_le _, rfl, rfl, Lib.hid rfl, by omega, Lib.hid rfl, World.ownsRow_nil _ _ _ _, HG, Lib.hid ⟨HOW.out, fun x hx => by cases hx⟩, hbA⟩
      case round =>
        obtain ⟨j, l, c', D, ps, hj, rfl, rfl, HPL, hl2, HPS, hownD, HG, HOW, hbi⟩ := hrel
        by_cases hlt2 : j < m
        · obtain ⟨p, hp⟩ : ∃ p, zs[j]? = some p := ⟨zs[j]'(by have := HM.out; omega), List.getElem?_eq_getElem _⟩
          obtain ⟨g, cc, hv, _, hgl⟩ := HOW.out.1.form (by omega)
          obtain ⟨rfl, rfl⟩ : C = some ⟨g, 0, none⟩ ∧ c = cc := by injection hv with h1 h2 h3; exact ⟨h1, h3⟩
          have hvz := spanV_at zs j p hp
          have e0 : wr.cell? ⟨g, j * 2, none⟩ = some (.int .i64 p.1) := by rw [HOW.out.1.cellAt (j * 2) (by omega)]; exact hvz.1
          have e1 : wr.cell? ⟨g, j * 2 + 1, none⟩ = some (.int .i64 p.2) := by rw [HOW.out.1.cellAt (j * 2 + 1) (by omega)]; exact hvz.2
          have hsx : spB p.1 p.2 = true := by
            have h1 := ((sep_iff zs).1 HL.out.1).1 p (List.mem_of_getElem? hp)
            exact spB_mk h1.1 h1.2.1 h1.2.2
          have HF := Lib.hid (flat_step (cutS u v) zs j p hp)
          obtain ⟨x, y⟩ := p
          have CW := Lib.hid (fun W => cWithout x y u v W hsx HV.out)
          have hGa := HG.out.alloc (.cells #[.int .i64 x, .int .i64 y] 30)
          obtain ⟨_, g0, g1⟩ := id hGa
          have HGA := Lib.hid hGa
          have hownDa := hownD.alloc (.cells #[.int .i64 x, .int .i64 y] 30)
          have hba := hbi.alloc hbi.size (.cells #[.int .i64 x, .int .i64 y] 30)
          have HCA := Lib.hid (HOW.out.1.alloc (.cells #[.int .i64 x, .int .i64 y] 30))
          have HDN := Lib.hid HOW.out.2
          have u1 : (0 : Int) ≤ (j : Int) := Int.natCast_nonneg _
          have u2 : (j : Int) < (m : Int) := by omega
          clear hp hv hvz hsx hGa hownD hbi
          go_wp2_with fail
          refine (CW.out _).mono ?_
          rintro e w4 ⟨E, ce, rfl, hownE, hc4⟩
          have hb4 := hba.trans (hc4.mono hba.size)
          have hownD4 := hownDa.kept (below_grown_ hc4 none) (by cases hC : (Value.slice D l c').ownBlock <;> simp)
          have hC4 := HCA.out.kept (below_grown_ hc4 none) (.inr (by simp [Value.ownBlock]))
          have hG4 := HGA.out.below hc4
          have HCUT : Hid ((cutS u v (x, y)).length ≤ 2) := Lib.hid (by unfold cutS; split <;> split <;> simp)
          obtain ⟨L, hL⟩ : ∃ L, L = (cutS u v (x, y)).length := ⟨_, rfl⟩
          rw [← hL] at hownE HCUT ⊢
          have HLL := Lib.hid hL
          have hL2 : L ≤ 2 := HCUT.out
          clear hL hownDa hba
          rcases E with _ | ad
          · have hL0 : L = 0 := by
              rcases hownE.2 with ⟨_, h0⟩ | ⟨_, _, _, h0, _⟩
              · exact h0
              · injection h0 with h0; cases h0
            have hc0 : ce = 0 := by
              rcases hownE.2 with ⟨h0, _⟩ | ⟨_, _, _, h0, _⟩
              · injection h0
              · injection h0 with h0; cases h0
            have hcut : cutS u v (x, y) = [] := List.eq_nil_of_length_eq_zero (by rw [← HLL.out]; exact hL0)
            have HCN := Lib.hid hcut
            subst hL0
            subst hc0
            clear hcut hownE
            go_wp2_with (at_builtin; refine wpList_append_own_none rfl _ _ 24 rfl w.heap.size 30 i0 2 Try.underlying24 hi0 _ _ _ rfl hownD4 rfl ?_)
            go_wp2_with fail
            go_roundw
            case rel => exact ⟨j + 1, l, c', D, ps, by omega, by go_num, rfl, HPL, by omega, Lib.hid (by rw [HF.out, ← HPS.out, HCN.out, List.append_nil]), hownD4, Lib.hid hG4, Lib.hid ⟨hC4, HDN.out⟩, hb4⟩
            case measure => simp [intOf]; omega
          · obtain ⟨ge, ce', hve, _, hgel⟩ : ∃ ge ce', (Value.slice (some ad) L ce) = .slice (some ⟨ge, 0, none⟩) L ce' ∧ True ∧ ge < w4.heap.size := by
              rcases hownE.2 with ⟨h0, _⟩ | ⟨g', cap', cur, h0, _, hh, _⟩
              · injection h0 with h0; cases h0
              · exact ⟨g', cap', h0, trivial, (Array.getElem?_eq_some_iff.1 hh).1⟩
            obtain ⟨rfl, rfl⟩ : ad = ⟨ge, 0, none⟩ ∧ ce = ce' := by injection hve with h1 h2 h3; injection h1 with h1; exact ⟨h1, h3⟩
            have hEl : (spanV (cutS u v (x, y))).length = L * 2 := by rw [spanV_len, HLL.out]
            have hEc := hownE.cells (g := ge) rfl
            clear hve hownE
            go_wp2_with (at_builtin; refine wpList_append_own_at _ rfl _ _ 24 rfl w.heap.size 30 i0 _ 2 16 Try.underlying24 hi0 hz0 hz1 hz2 rfl (by decide) _ _ _ rfl hownD4 ⟨ge, 0, none⟩ L ce (spanV (cutS u v (x, y))) rfl hEl hEc (spanV_one' _) ?f3 ?f4 hb4.size ?_)
            case f3 => unfold maxLen; omega
            case f4 => omega
            intro v' w5 hown5 hgrow5 _ hat5
            rw [← spanV_app] at hown5
            obtain ⟨D', c5, rfl⟩ := span_form hown5
            have hb5 := hb4.grown hgrow5 hb4.size (fun k hk => (hownD4.lt k hk).1)
            have hG5 := hG4.grown hgrow5 (by intro he; exact (HDN.out G he.symm).2 rfl)
            have hC5 := hC4.kept hgrow5 (by
              cases hd : (Value.slice D l c').ownBlock with
              | none => right; simp [Value.ownBlock]
              | some x0 => right; exact (HDN.out x0 hd).1)
            have HD5 : Hid (∀ x0, (Value.slice D' (l + L) c5).ownBlock = some x0 → (Value.slice (some ⟨g, 0, none⟩) m c).ownBlock ≠ some x0 ∧ x0 ≠ G) := Lib.hid (by
              intro x0 hx0
              rcases hat5 with h1 | h1
              · exact HDN.out x0 (h1.symm.trans hx0)
              · rw [h1] at hx0
                injection hx0 with hx0
                have hgl4 := (hC4.lt g rfl).2
                have hGl4 := hG4.1
                refine ⟨fun he => ?_, by omega⟩
                simp [Value.ownBlock] at he
                omega)
            clear hEl hEc hat5 hownD4 hC4 hG4 hb4 hgrow5
            go_wp2_with fail
            go_roundw
            case rel => exact ⟨j + 1, l + L, c5, D', ps ++ cutS u v (x, y), by omega, by go_num, rfl, Lib.hid (by rw [List.length_append, ← HPL.out, ← HLL.out]), by omega, Lib.hid (by rw [HF.out, ← HPS.out]), hown5, Lib.hid hG5, Lib.hid ⟨hC5, HD5.out⟩, hb5⟩
            case measure => simp [intOf]; omega
        · obtain rfl : j = m := by omega
          have hps : ps = zs.flatMap (cutS u v) := by rw [HPS.out, List.take_of_length_le (by have := HM.out; omega)]
          have HLN := HN.out ps hps
          have hl3 : l ≤ 3001 := by rw [HPL.out]; exact sep_short HLN.out.1
          clear hps
          go_wp2_with fail
          go_roundw
          case rel => exact ⟨k + 1, l, c', D, ps, by omega, by go_num, rfl, HPL, hl3, HLN, hownD, hbi⟩
          case measure => simp [intOf]; omega
    · obtain rfl : k = n' := by omega
      have HLF := Lib.hid (left_upto (zs := zs) (by have h1 := HL.out; rw [← H'.out.1] at h1; exact h1) HX.out)
      go_wp2_with fail
      refine (cLimited C m c wr (by omega)).mono ?_
      rintro e w9 ⟨rfl, rfl⟩
      by_cases h12 : 12 < m
      · rw [if_pos h12]
        have HS : Hid (SetIs false xs ys 3 []) := Lib.hid (.inr ⟨HO.out, zs, HLF.out, .inl ⟨by rw [← HM.out]; exact h12, rfl, rfl⟩⟩)
        clear h12
        go_wp2_with fail
        go_ret2
        exact ⟨none, 0, 0, 3, [], rfl, HS.out, rfl, World.ownsRow_nil _ _ _ _, hbw⟩
      · rw [if_neg h12]
        have HS : Hid (SetIs false xs ys 0 zs) := Lib.hid (.inr ⟨HO.out, zs, HLF.out, .inr ⟨by rw [← HM.out]; omega, rfl, rfl⟩⟩)
        clear h12
        go_wp2_with fail
        go_ret2
        exact ⟨C, m, c, 0, zs, HM.out, HS.out, rfl, hown, hbw⟩
end Go.Proofs.Ythlajgkelggnkaa
