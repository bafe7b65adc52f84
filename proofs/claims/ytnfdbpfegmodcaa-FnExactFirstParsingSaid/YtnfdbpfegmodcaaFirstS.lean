/-
  The contracts of spec.l05First and spec.FirstParsing.
-/
import Derived.Test.YtnfdbpfegmodcaaFirstP
namespace Go.Proofs.Ytnfdbpfegmodcaa
set_option linter.unusedVariables false
open Go.RowKit

def fstO (rs : List Ru) (s : ByteArray) : Option (List Int) := if numP rs s = 0 then none else some (firstP (roms rs) s.data.toList s.size)

set_option maxHeartbeats 4000000 in
set_option maxRecDepth 100000 in
theorem cFirstS (A : Option Addr) (n c : Nat) (rs : List Ru) (s : ByteArray) (w : World) (hb : n ≤ maxLen) (h48 : s.size ≤ 48) (h : RulesAt w w.heap.size A n rs) :
    Calls Try.prog 92 #[.slice A n c, .string s] w (UsedPost (fstO rs s) w) := by
  obtain ⟨i0, hi0, hz0, hz1, hz2⟩ := info_parts info_i64
  have CW := Lib.hid (cWays A n c rs s w hb h48 h)
  have H := Lib.hid h
  have HL := Lib.hid h.1
  unfold maxLen at hb
  clear h
  obtain ⟨f, hf⟩ : ∃ f, f = cntW (roms rs) s.data.toList := ⟨_, rfl⟩
  rw [← hf] at CW
  have hx : numP rs s = f s.size := by rw [hf]; rfl
  have HF := Lib.hid hf
  clear hf
  by_cases hx0 : f s.size = 0
  · have HO : Hid (fstO rs s = none) := Lib.hid (by unfold fstO; rw [hx, if_pos hx0])
    rw [HO.out]
    clear hx
    go_enter Try.func92, Try.ntmps92
    go_wp2_with (go_at_call 88; refine CW.out.mono ?_; rintro e w1 ⟨rfl, own1, hb1⟩; have k0 : (w1.alloc (.cells #[] 2)).cell? ⟨w.heap.size, 0, none⟩ = some (.int .i64 0) := ((alloc_below w1 _).cell (p := ⟨w.heap.size, 0, none⟩) (own1.lt _ rfl).2).trans ((own1.cellAt 0 (by omega)).trans (by rw [waysV_at (by omega), hx0])); have HB1 := Lib.hid hb1; clear own1 hb1)
    go_ret2
    exact .inl ⟨rfl, rfl, HB1.out.alloc HB1.out.size _⟩
  have HO : Hid (fstO rs s = some (firstP (roms rs) s.data.toList s.size)) := Lib.hid (by unfold fstO; rw [hx, if_neg hx0])
  rw [HO.out]
  have hd : (f s.size == 0) = false := by simpa using hx0
  have hpos0 : 0 < cntW (roms rs) s.data.toList s.size := by
    have := cntW_bd (roms rs) s.data.toList s.size
    rw [HF.out] at hx0
    omega
  have HPOS := Lib.hid hpos0
  clear hx hpos0
  obtain ⟨x, hxx⟩ : ∃ x, x = f s.size := ⟨_, rfl⟩
  rw [← hxx] at hd
  have HXX := Lib.hid hxx
  clear hxx hx0
  go_enter Try.func92, Try.ntmps92
  go_wp2_with (go_at_call 88; refine CW.out.mono ?_; rintro e w1 ⟨rfl, own1, hb1⟩; have k0 : (w1.alloc (.cells #[] 2)).cell? ⟨w.heap.size, 0, none⟩ = some (.int .i64 x) := ((alloc_below w1 _).cell (p := ⟨w.heap.size, 0, none⟩) (own1.lt _ rfl).2).trans ((own1.cellAt 0 (by omega)).trans (by rw [waysV_at (by omega), HXX.out])); have HW1 := Lib.hid own1; have HB1 := Lib.hid hb1; clear own1 hb1)
  clear k0
  have lt1 : w.heap.size < w1.heap.size := (HW1.out.lt _ rfl).2
  have HW2 : Hid ((w1.alloc (.cells #[] 2)).ownsRow w.heap.size 2 1 (.slice (some ⟨w.heap.size, 0, none⟩) (s.size + 1) (s.size + 1)) (s.size + 1) (waysV f s.size 0 (f s.size))) := Lib.hid (HW1.out.alloc _)
  have HB2 : Hid (Below w.heap.size w (w1.alloc (.cells #[] 2))) := Lib.hid (HB1.out.alloc HB1.out.size _)
  have own0 : (w1.alloc (.cells #[] 2)).ownsRow (w.heap.size + 1) 2 1 (.slice (some ⟨w1.heap.size, 0, none⟩) 0 0) 0 (intV []) := World.ownsRow_lit (e := 2) (base := w.heap.size + 1) (size := 1) w1 #[] 0 (by omega) (by decide) rfl
  clear HW1 HB1 CW
  go_loopw [7, 8] (fun u av wr => ∃ (k m a : Nat) (acc : List Int) (uv : Value), uv = u ∧ av = .int .i64 a ∧ a + k = s.size ∧ m ≤ a ∧ Hid (m = acc.length) ∧ Hid (FirstA (roms rs) s.data.toList s.size k acc) ∧ Hid (wr.ownsRow w.heap.size 2 1 (.slice (some ⟨w.heap.size, 0, none⟩) (s.size + 1) (s.size + 1)) (s.size + 1) (waysV f s.size 0 (f s.size))) ∧ wr.ownsRow (w.heap.size + 1) 2 1 uv m (intV acc) ∧ Hid (Below w.heap.size w wr)) (fun _ av _ => s.size - (intOf av).toNat)
  case atStart => exact ⟨s.size, 0, 0, [], _, rfl, rfl, by omega, Nat.le_refl _, Lib.hid rfl, Lib.hid (FirstA.start HPOS.out), HW2, own0, HB2⟩
  case round =>
    obtain ⟨k, m, a, acc, uv, rfl, rfl, hak, hma, HM, HA, HW, hown, HB⟩ := hrel
    have HAK := Lib.hid hak
    clear HW2 own0 HB2
    obtain ⟨wo, rfl⟩ : ∃ wo : World, wo = wr := ⟨_, rfl⟩
    by_cases hk0 : 0 < k
    · have haL : a < s.size := by omega
      have HOWN := Lib.hid hown
      clear hown
      go_wp2
      go_loopw [7, 8, 9] (fun u1 a1 i wr => ∃ j : Nat, uv = u1 ∧ a1 = .int .i64 a ∧ j ≤ n ∧ i = .int .i64 j ∧ Hid (noneP (roms rs) s.data.toList k j) ∧ Hid (Below wo.heap.size wo wr)) (fun _ _ i _ => n - (intOf i).toNat)
      case atStart => exact ⟨0, rfl, rfl, Nat.zero_le _, rfl, Lib.hid (fun j q hj _ => by omega), Lib.hid (Below.refl _ _)⟩
      case round =>
        obtain ⟨j, rfl, rfl, hj, rfl, HN, HI⟩ := hrel
        have hjn : j < n := by
          rcases Nat.lt_or_ge j n with h | h
          · exact h
          · exact (noneP_end (by have := HN.out; rwa [show j = (roms rs).length from by rw [roms_len, ← HL.out]; omega] at this) hk0 (by rw [size_toL]; omega) HA.out.2).elim
        have HBI := Lib.hid (HB.out.trans (HI.out.mono HB.out.size))
        obtain ⟨q, hq⟩ : ∃ q, rs[j]? = some q := ⟨rs[j]'(by have := HL.out; omega), List.getElem?_eq_getElem _⟩
        obtain ⟨b, o, rfl, hbl, A1, n1, c1, k0, k1, k2, k3, k4⟩ := (H.out.below HBI.out (Nat.le_refl _)).row hq
        have hbs := HBI.out.size
        have CF := Lib.hid (fun W => cFits A1 n1 c1 a s q.2 W (by unfold maxLen; omega) k4 (by omega))
        have hrl : s.data.toList.drop a = restL s.data.toList k := by unfold restL; rw [size_toL]; congr 1; omega
        have HRL := Lib.hid hrl
        have HQ := Lib.hid (roms_at hq)
        have hbl2 : b < wr.heap.size := Nat.lt_of_lt_of_le hbl hbs
        have HK1 := Lib.hid k1
        have e1 : (0 : Int) ≤ (j : Int) := by omega
        have e2 : (j : Int) < (n : Int) := by omega
        clear hq k2 k3 k4 hrl hbs
        go_wp2_with fail
        refine (CF.out _).mono ?_
        rintro e w2 ⟨rfl, hb2⟩
        rw [HRL.out]
        have hI2 := HI.out.trans (hb2.mono HI.out.size)
        have hB2 := HB.out.trans (hI2.mono HB.out.size)
        have k1' := (hb2.cell (p := ⟨b, o + j * 2 + 1, none⟩) hbl2).trans HK1.out
        have HI2 := Lib.hid hI2
        have HB2 := Lib.hid hB2
        have HW2 := Lib.hid (ownsRow_keep HW.out hI2)
        have HOWN2 := Lib.hid (ownsRow_keep HOWN.out hI2)
        clear hI2 hB2 hb2 CF k0 k1
        cases hfit : fitR q.2 (restL s.data.toList k)
        · have HN2 := Lib.hid (noneP_step HN.out HQ.out (good_no hfit))
          clear hfit
          go_wp2
          go_roundw
          case rel => exact ⟨j + 1, rfl, rfl, by omega, by go_num, HN2, HI2⟩
          case measure => simp [intOf]; omega
        · have hle := (fit_le hfit)
          rw [restL_len (by rw [size_toL]; omega)] at hle
          have hqs := hle.1
          have hqk := hle.2.1
          have hg := good_is (rs := roms rs) hfit
          rw [← HF.out, show k - q.2.size = s.size - (a + q.2.size) from by omega] at hg
          obtain ⟨y, hy⟩ : ∃ y, y = f (s.size - (a + q.2.size)) := ⟨_, rfl⟩
          rw [← hy] at hg
          have c2 : w2.cell? ⟨w.heap.size, a + q.2.size, none⟩ = some (.int .i64 y) := (HW2.out.cellAt (a + q.2.size) (by omega)).trans (by rw [waysV_gt (by omega) (by omega), hy])
          have HG := Lib.hid hg
          have e3 : (a : Int) + (q.2.size : Int) < (s.size : Int) + 1 := by omega
          have e5 : a + q.2.size < s.size + 1 := by omega
          clear hfit hle hg hy
          by_cases hpos : 0 < y
          · have HGT : Hid (goodP (roms rs) s.data.toList k q.2 = true) := Lib.hid (by rw [HG.out, decide_eq_true hpos])
            have HA2 := Lib.hid (HA.out.step hk0 (by rw [size_toL]; omega) HQ.out HGT.out HN.out)
            have hown2 := HOWN2.out
            go_wp2_with (at_builtin; refine wpList_append_own _ rfl _ _ 25 rfl (w.heap.size + 1) 2 i0 _ 1 8 Try.underlying25 hi0 hz0 hz1 hz2 rfl (by decide) _ _ _ rfl (hown2.alloc _) ⟨w2.heap.size, 0, none⟩ 1 1 [.int .i64 (j : Int)] rfl rfl ?c1 ?c2 ?c3 ?c4 ?c5 ?_)
            case c1 => exact one_cell' _ _ _ (new_one w2 _ _)
            case c2 => intro u hu; simp at hu; subst hu; rfl
            case c3 => unfold maxLen; omega
            case c4 => omega
            case c5 => have := (HW2.out.lt _ rfl).2; simp at this ⊢; omega
            intro v' w3 hown3 hgrow3 _
            rw [intV_snoc] at hown3
            have hob : ∀ g, uv.ownBlock = some g → w.heap.size + 1 ≤ g := fun g hg => (hown2.lt g hg).1
            have HW3 := Lib.hid ((HW2.out.alloc (.cells #[.int .i64 (j : Int)] 2)).kept hgrow3 (.inr (fun e => by have h9 := hob w.heap.size (by first | exact e | exact e.symm); omega)))
            have HB3 : Hid (Below w.heap.size w w3) := Lib.hid ((HB2.out.alloc HB2.out.size _).grown hgrow3 (by have := HB2.out.size; simp; omega) (fun g hg => by have := hob g hg; omega))
            have k3 : w3.cell? ⟨b, o + j * 2 + 1, none⟩ = some (.string q.2) := (HB3.out.cell (p := ⟨b, o + j * 2 + 1, none⟩) hbl).trans ((HB2.out.cell (p := ⟨b, o + j * 2 + 1, none⟩) hbl).symm.trans k1')
            clear hgrow3 hown2 hob c2 k1'
            go_wp2
            go_roundw
            case rel => exact ⟨k - q.2.size, m + 1, a + q.2.size, acc ++ [(j : Int)], v', rfl, by go_num, by omega, by omega, Lib.hid (by rw [List.length_append, ← HM.out]; rfl), HA2, HW3, hown3, HB3⟩
            case measure => simp [intOf]; omega
          · have HGT : Hid (goodP (roms rs) s.data.toList k q.2 = false) := Lib.hid (by rw [HG.out, decide_eq_false hpos])
            have HN2 := Lib.hid (noneP_step HN.out HQ.out HGT.out)
            go_wp2
            go_roundw
            case rel => exact ⟨j + 1, rfl, rfl, by omega, by go_num, HN2, HI2⟩
            case measure => simp [intOf]; omega
    · obtain rfl : k = 0 := by omega
      have hfin := HA.out.done
      rw [← hfin] at hown
      have hml : m = (firstP (roms rs) s.data.toList s.size).length := by rw [hfin]; exact HM.out
      have HML := Lib.hid hml
      have haL : a = s.size := by omega
      obtain ⟨A2, c2, rfl⟩ := row_slice hown
      clear hfin hml
      go_wp2
      go_ret2
      exact .inr ⟨_, _, rfl, rfl, by rw [← HML.out]; exact rowBase hown (by omega), HB.out⟩

set_option maxHeartbeats 1000000 in
theorem cFst_spec (A : Option Addr) (n c : Nat) (rs : List Ru) (s : ByteArray) (w : World) (hb : n ≤ maxLen) (hs : s.size ≤ maxLen) (h : RulesAt w w.heap.size A n rs) :
    Calls Try.prog 39 #[.slice A n c, .string s] w (UOut (fstZ rs s) (fstE rs s) w) := by
  have CC := Lib.hid (cCode5 A n c rs s w hb hs h)
  have CS := Lib.hid (fun (W : World) (h48 : s.size ≤ 48) (hW : Below w.heap.size w W) => cFirstS A n c rs s W hb h48 (rules_grow h hW))
  clear h
  cases hok : ok5 rs s
  · rw [code5_no hok] at CC
    obtain ⟨e1, e2⟩ := fst_bad hok
    rw [e1, e2]
    clear hok e1 e2
    go_enter Try.func39, Try.ntmps39
    go_wp2_with (go_at_call 87; refine CC.out.mono ?_; rintro e w1 ⟨rfl, hb1⟩)
    go_ret2
    exact uOut_nil hb1
  rw [code5_yes hok] at CC
  have h48 := okT_len (ok5_text hok)
  by_cases hx : numP rs s = 0
  · obtain ⟨e1, e2⟩ := fst_none hok hx
    rw [e1, e2]
    have CS2 := Lib.hid (fun W hW => CS.out W h48 hW)
    rw [show fstO rs s = none from by unfold fstO; rw [if_pos hx]] at CS2
    clear hok e1 e2 hx CS
    go_enter Try.func39, Try.ntmps39
    go_wp2_with (first
      | (go_at_call 87; refine CC.out.mono ?_; rintro e w1 ⟨rfl, hb1⟩)
      | (go_at_call 92; refine (CS2.out _ hb1).mono ?_; rintro e w2 hU; obtain ⟨rfl, hb2⟩ := hU.no))
    go_ret2
    exact uOut_nil (hb1.trans (hb2.mono hb1.size))
  · obtain ⟨e1, e2⟩ := fst_some hok hx
    rw [e1, e2]
    have CS2 := Lib.hid (fun W hW => CS.out W h48 hW)
    rw [show fstO rs s = some (firstP (roms rs) s.data.toList s.size) from by unfold fstO; rw [if_neg hx]] at CS2
    clear hok e1 e2 hx CS
    go_enter Try.func39, Try.ntmps39
    go_wp2_with (first
      | (go_at_call 87; refine CC.out.mono ?_; rintro e w1 ⟨rfl, hb1⟩)
      | (go_at_call 92; refine (CS2.out _ hb1).mono ?_; rintro e w2 hU; obtain ⟨Al, cl, rfl, hown, hb2⟩ := hU.yes))
    go_ret2
    exact ⟨_, _, _, rfl, rowBase hown hb1.size, hb1.trans (hb2.mono hb1.size)⟩
end Go.Proofs.Ytnfdbpfegmodcaa
