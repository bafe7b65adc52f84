/-
  The contract of spec.FirstLetters.
-/
import Derived.Test.YtjockiedganokaaDoorFirstL
namespace Go.Proofs.YtjockiedganokaaDoor
set_option linter.unusedVariables false
open Go.RowKit Go.Lib

/-- The first letter as spec.l06Spellings tells it. -/
theorem splg_first (xs : List ByteArray) (y : ByteArray) (h : phraseB y = true) (hc : canP xs y = true) : ∃ k0 : List Int, (keptP xs [] y)[0]? = some k0 ∧ k0[0]? = some (fstP xs y) := by
  obtain ⟨w, i, h1, h2, h3, h4, _, _⟩ := fstP_at xs y h hc
  refine ⟨idxL xs w, ?_, by rw [h4]; exact h2⟩
  unfold keptP
  rw [List.getElem?_map, h1]
  show some (keptW xs [] w) = _
  unfold keptW; simp
theorem cFirst6 (A A2 : Option Addr) (n n2 c c2 : Nat) (xs : List ByteArray) (y : ByteArray) (w : World) (ha : alphaB xs = true) (h : TextAt w w.heap.size A n xs) (hsz : y.size ≤ 1048576) (hp : phraseB y = true) (hc : canP xs y = true) (h2 : NumAt w w.heap.size A2 n2 []) (hb2 : n2 ≤ maxLen) :
    Calls Tryd.prog 60 #[.slice A n c, .string y, .slice A2 n2 c2] w fun e w' => ∃ (g m cc g2 m2 cc2 : Nat), e = .returned (.slice (some ⟨g, 0, none⟩) m cc) ∧ 0 < m ∧ w'.cell? ⟨g, 0, none⟩ = some (.slice (some ⟨g2, 0, none⟩) m2 cc2) ∧ 0 < m2 ∧ w'.cell? ⟨g2, 0, none⟩ = some (.int .i64 (fstP xs y)) ∧ Below w.heap.size w w' := by
  refine (cSplg A A2 n n2 c c2 xs y [] w ha h hsz hp hc h2 hb2).mono ?_
  rintro e w' ⟨v, vs, rfl, hown, hir, hb⟩
  obtain ⟨k0, hk0, hk1⟩ := splg_first xs y hp hc
  have hpos : 0 < (keptP xs [] y).length := (List.getElem?_eq_some_iff.1 hk0).1
  obtain ⟨g, cc, rfl, _, _⟩ := World.ownsRow.form hown hpos
  have hvl : 0 < vs.length := by have := hir.1; omega
  have hv : vs[0]? = some vs[0] := List.getElem?_eq_getElem hvl
  have hi := hir.2 0 _ k0 hv hk0
  have hpos2 : 0 < k0.length := (List.getElem?_eq_some_iff.1 hk1).1
  obtain ⟨g2, cc2, hv2, _, _⟩ := World.ownsRow.form hi hpos2
  refine ⟨g, _, cc, g2, k0.length, cc2, rfl, hpos, ?_, hpos2, ?_, hb⟩
  · rw [hown.cellAt 0 (by omega), hv, hv2]
  · have := World.ownsRow.cellAt (hv2 ▸ hi) 0 (by omega)
    exact this.trans (intV_at _ _ _ hk1)
theorem mem_take_step (l : List Int) (i : Nat) (x k : Int) (h : l[i]? = some x) : decide (k ∈ l.take (i + 1)) = (decide (k ∈ l.take i) || (x == k)) := by
  have hl := (List.getElem?_eq_some_iff.1 h).1
  have he : l[i] = x := (List.getElem?_eq_some_iff.1 h).2
  rw [List.take_succ_eq_append_getElem hl, he, Bool.eq_iff_iff, Bool.or_eq_true, decide_eq_true_eq, decide_eq_true_eq, beq_iff_eq, List.mem_append, List.mem_singleton]
  constructor
  · rintro (h | h)
    · exact .inl h
    · exact .inr h.symm
  · rintro (h | h)
    · exact .inl h
    · exact .inr h.symm

set_option maxHeartbeats 4000000 in
set_option maxRecDepth 100000 in
theorem tFL_spec (A A1 : Option Addr) (n n1 c c1 : Nat) (xs ls : List ByteArray) (w : World) (hbig : n ≤ 1048576) (hs : ∀ x ∈ xs, x.size ≤ maxLen) (h : TextAt w w.heap.size A n xs) (h1 : TextAt w w.heap.size A1 n1 ls) (hb1 : n1 ≤ 1048576) (hs1 : ∀ x ∈ ls, x.size ≤ 1048576) :
    Calls Tryd.prog 35 #[.slice A n c, .slice A1 n1 c1] w (FLOut (flZ xs ls) (codeK xs ls [] ls.length) w) := by
  obtain ⟨i0, hi0, hz0, hz1, hz2⟩ := info_parts info_i64
  have hba : Below w.heap.size w (w.alloc (.cells #[] 2)) := (Below.refl _ _).alloc (Nat.le_refl _) _
  have HB := Lib.hid hba
  have CC := Lib.hid (cCode6 A A1 (some ⟨w.heap.size, 0, none⟩) n n1 0 c c1 0 xs ls [] (w.alloc (.cells #[] 2)) hbig hs ((h.below hba (Nat.le_refl _)).more hba.size) ((h1.below hba (Nat.le_refl _)).more hba.size) (by omega) hs1 ⟨rfl, fun h => absurd h (by omega)⟩ (by unfold maxLen; omega))
  have hcl : codeK xs ls [] n1 = codeK xs ls [] ls.length := by rw [h1.1]
  rw [hcl] at CC
  have HN1 := Lib.hid h1.1
  have HN := Lib.hid h.1
  have H1 := Lib.hid h1
  clear hcl hba
  unfold FLOut
  by_cases hcode : codeK xs ls [] ls.length = 0
  · have hz := codeK_zero hcode
    have HZ := Lib.hid (flZ_yes xs ls hcode)
    have hd : (codeK xs ls [] ls.length != 0) = false := by simp [hcode]
    have HC0 := Lib.hid hcode
    have hlx := (alpha_len xs hz.1).2
    have hcan : ∀ y ∈ ls, canP xs y = true := by have := hz.2.2.2.1; rw [List.all_eq_true] at this; exact this
    have CF : Hid (∀ W y, Below w.heap.size w W → y ∈ ls → Calls Tryd.prog 60 #[.slice A n c, .string y, .slice (some ⟨W.heap.size, 0, none⟩) 0 0] (W.alloc (.cells #[] 2)) fun e w' => ∃ (g m cc g2 m2 cc2 : Nat), e = .returned (.slice (some ⟨g, 0, none⟩) m cc) ∧ 0 < m ∧ w'.cell? ⟨g, 0, none⟩ = some (.slice (some ⟨g2, 0, none⟩) m2 cc2) ∧ 0 < m2 ∧ w'.cell? ⟨g2, 0, none⟩ = some (.int .i64 (fstP xs y)) ∧ Below W.heap.size W w') := Lib.hid (fun W y hW hy => by
      have hba : Below w.heap.size w (W.alloc (.cells #[] 2)) := hW.alloc hW.size _
      refine (cFirst6 A (some ⟨W.heap.size, 0, none⟩) n 0 c 0 xs y _ hz.1 ((h.below hba (Nat.le_refl _)).more hba.size) (hs1 y hy) (phrasesB_mem ls hz.2.1 y hy) (hcan y hy) ⟨rfl, fun h => absurd h (by omega)⟩ (by unfold maxLen; omega)).mono ?_
      rintro e w' ⟨g, m, cc, g2, m2, cc2, he, a1, a2, a3, a4, hb⟩
      exact ⟨g, m, cc, g2, m2, cc2, he, a1, a2, a3, a4, ((Below.refl _ _).alloc (Nat.le_refl _) _).trans (hb.mono (by simp))⟩)
    obtain ⟨fs, hfs⟩ : ∃ fs, fs = fstL xs ls := ⟨_, rfl⟩
    have HFS : Hid (∀ (k : Nat) y, ls[k]? = some y → fs[k]? = some (fstP xs y)) := Lib.hid (fun k y hy => by rw [hfs]; unfold fstL; rw [List.getElem?_map, hy]; rfl)
    have hfl : fs.length = n1 := by rw [hfs]; unfold fstL; rw [List.length_map]; exact h1.1.symm
    rw [← hfs] at HZ
    have HFL := Lib.hid hfl
    have hn40 : n ≤ 40 := by have := h.1; omega
    clear h h1 hs hs1 hz hcode hfs hfl hcan hlx
    go_enter Tryd.func35, Tryd.ntmps35
    go_wp2_with fail
    refine CC.out.mono ?_
    rintro e w1 ⟨rfl, hbn⟩
    have hb1' : Below w.heap.size w w1 := HB.out.trans (hbn.mono HB.out.size)
    clear hbn CC
    go_wp2_with fail
    go_loopw [7, 8] (fun ov i wr => ∃ (k m : Nat) (v : Value), k ≤ n ∧ i = .int .i64 k ∧ v = ov ∧ m ≤ k ∧ Hid (m = (firstF fs k).length) ∧ wr.ownsRow w1.heap.size 2 1 v m (intV (firstF fs k)) ∧ Below w1.heap.size w1 wr) (fun _ i _ => n - (intOf i).toNat)
    case atStart => exact ⟨0, 0, _, Nat.zero_le _, rfl, rfl, Nat.le_refl _, Lib.hid rfl, World.ownsRow_lit (e := 2) (base := w1.heap.size) (size := 1) w1 #[] 0 (Nat.le_refl _) (by decide) rfl, (Below.refl _ _).alloc (Nat.le_refl _) _⟩
    case round =>
      obtain ⟨k, m, v, hk, rfl, rfl, hmk, HM, hown, hbw⟩ := hrel
      obtain ⟨wo, rfl⟩ : ∃ wo : World, wo = wr := ⟨_, rfl⟩
      by_cases hlt : k < n
      · have hbo : Below w.heap.size w wo := hb1'.trans (hbw.mono hb1'.size)
        go_wp2_with fail
        go_loopw [9, 10] (fun fv i wr => ∃ (j : Nat) (b : Bool), j ≤ n1 ∧ i = .int .i64 j ∧ fv = .bool b ∧ Hid (b = decide ((k : Int) ∈ fs.take j)) ∧ Below wo.heap.size wo wr) (fun _ i _ => n1 - (intOf i).toNat)
        case atStart => exact ⟨0, false, Nat.zero_le _, rfl, rfl, Lib.hid (by simp), Below.refl _ _⟩
        case round =>
          obtain ⟨j, b, hj, rfl, rfl, HBB, hbi⟩ := hrel
          have hbi0 : Below w.heap.size w wr := hbo.trans (hbi.mono hbo.size)
          by_cases hjl : j < n1
          · obtain ⟨y, hy⟩ : ∃ y, ls[j]? = some y := ⟨ls[j]'(by have := HN1.out; omega), List.getElem?_eq_getElem _⟩
            obtain ⟨bb, o, rfl, hbb, hcx0⟩ := H1.out.row hy
            have hcx := (hbi0.cell (by exact hbb)).trans hcx0
            have CX := Lib.hid (CF.out wr y hbi0 (List.mem_of_getElem? hy))
            have hst := mem_take_step fs j (fstP xs y) (k : Int) (HFS.out j y hy)
            obtain ⟨q, hq⟩ : ∃ q, q = fstP xs y := ⟨_, rfl⟩
            rw [← hq] at CX hst
            have e1 : (0 : Int) ≤ (j : Int) := Int.natCast_nonneg _
            have e2 : (j : Int) < (n1 : Int) := by omega
            clear hy hcx0 hq
            cases b
            · rw [← HBB.out, Bool.false_or] at hst
              obtain ⟨r, hr⟩ : ∃ r, r = (q == (k : Int)) := ⟨_, rfl⟩
              rw [← hr] at hst
              have hr2 : (q == (k : Int)) = r := hr.symm
              have HST := Lib.hid hst.symm
              clear hst hr
              go_wp2_with fail
              refine CX.out.mono ?_
              rintro e w5 ⟨g, mm, cc, g2, m2, cc2, rfl, p1, p2, p3, p4, hb5⟩
              have p5 : (0 : Int) < (mm : Int) := by omega
              have p6 : (0 : Int) < (m2 : Int) := by omega
              go_wp2_with fail
              go_roundw
              case rel => exact ⟨j + 1, r, by omega, by go_num, by first | rfl | (rw [hr2]; done) | (rw [hr2]; rfl), HST, hbi.trans (hb5.mono hbi.size)⟩
              case measure => simp [intOf]; omega
            · rw [← HBB.out, Bool.true_or] at hst
              have HST := Lib.hid hst.symm
              clear hst
              go_wp2_with fail
              go_roundw
              case rel => exact ⟨j + 1, true, by omega, by go_num, rfl, HST, hbi⟩
              case measure => simp [intOf]; omega
          · have hfb := HBB.out
            rw [List.take_of_length_le (by have := HFL.out; omega)] at hfb
            have hss := firstF_succ fs k
            have hownk := hown.kept (bgr hbi none) (by rcases hh : v.ownBlock with _ | q; exact .inl rfl; exact .inr (by simp))
            have hwb : w1.heap.size ≤ wr.heap.size := Nat.le_trans hbw.size hbi.size
            cases b
            · have hno : ¬ (k : Int) ∈ fs := by intro h; rw [decide_eq_true h] at hfb; cases hfb
              rw [if_neg hno, List.append_nil] at hss
              have HSS := Lib.hid hss
              clear hss hfb hno hown
              go_wp2_with fail
              go_roundw
              case rel => exact ⟨k + 1, m, _, by omega, by go_num, rfl, by omega, Lib.hid (by rw [HSS.out]; exact HM.out), by rw [HSS.out]; exact hownk, hbw.trans (hbi.mono hbw.size)⟩
              case measure => simp [intOf]; omega
            · have hyes : (k : Int) ∈ fs := by exact of_decide_eq_true hfb.symm
              rw [if_pos hyes] at hss
              have HSS := Lib.hid hss
              clear hss hfb hyes hown
              go_wp2_with (at_builtin; refine wpList_append_own _ rfl _ _ 25 rfl w1.heap.size 2 i0 _ 1 8 Tryd.underlying25 hi0 hz0 hz1 hz2 rfl (by decide) _ _ _ rfl (hownk.alloc _) ⟨wr.heap.size, 0, none⟩ 1 1 [.int .i64 (k : Int)] rfl rfl (cell_one_new _ _ _) (by simp [Value.oneCell']) (by unfold maxLen; omega) (by omega) (by simp; omega) ?_; intro v6 w6 hown6 hgrow6 _)
              rw [intV_snoc, ← HSS.out] at hown6
              have hb6 : Below w1.heap.size w1 w6 := ((hbw.trans (hbi.mono hbw.size)).alloc hwb _).grown hgrow6 (by simp; omega) (fun q hq => (hownk.lt q hq).1)
              clear hgrow6 hownk
              go_wp2_with fail
              go_roundw
              case rel => exact ⟨k + 1, m + 1, v6, by omega, by go_num, rfl, by omega, Lib.hid (by rw [HSS.out, List.length_append, HM.out]; rfl), hown6, hb6⟩
              case measure => simp [intOf]; omega
      · obtain rfl : k = n := by omega
        have hkx : k = xs.length := HN.out
        obtain ⟨C, cc, rfl⟩ := irow_form hown
        have HKX := Lib.hid hkx
        clear hkx
        go_wp2_with fail
        go_ret2
        refine ⟨C, m, cc, ?_, ?_, hb1'.trans (hbw.mono hb1'.size)⟩
        · rw [HC0.out]; first | rfl | done
        · rw [HZ.out, ← HKX.out]; exact rowBase hown hb1'.size
  · have hd : (codeK xs ls [] ls.length != 0) = true := by simp [hcode]
    have HZ := Lib.hid (flZ_no xs ls hcode)
    clear h h1 hs hs1 hcode
    go_enter Tryd.func35, Tryd.ntmps35
    go_wp2_with fail
    refine CC.out.mono ?_
    rintro e w1 ⟨rfl, hbn⟩
    have hb1' : Below w.heap.size w w1 := HB.out.trans (hbn.mono HB.out.size)
    go_wp2_with fail
    go_ret2
    exact ⟨none, 0, 0, rfl, by rw [HZ.out]; exact World.ownsRow_nil _ _ _ _, hb1'⟩
end Go.Proofs.YtjockiedganokaaDoor
