/-
  The contracts of spec.SortKey and impl.SortKey: both answer 'skV xs s'.
-/
import Derived.Test.YtjockiedganokaaDoorSplg
import Derived.Test.YtjockiedganokaaDoorKeysOf
import Derived.Test.YtjockiedganokaaDoorJoinE
namespace Go.Proofs.YtjockiedganokaaDoor
set_option linter.unusedVariables false
open Go.RowKit

def skV (xs : List ByteArray) (s : ByteArray) : Value := if codeK xs [s] [] 0 = 0 then .tuple #[.string (catE (keyP xs s)), .int .i64 0] else .tuple #[.string ByteArray.empty, .int .i64 (codeK xs [s] [] 0)]
theorem skV_no (xs : List ByteArray) (s : ByteArray) (h : codeK xs [s] [] 0 ≠ 0) : skV xs s = .tuple #[.string ByteArray.empty, .int .i64 (codeK xs [s] [] 0)] := by unfold skV; rw [if_neg h]
theorem skV_yes (xs : List ByteArray) (s : ByteArray) (h : codeK xs [s] [] 0 = 0) : skV xs s = .tuple #[.string (catE (keyP xs s)), .int .i64 0] := by unfold skV; rw [if_pos h]
theorem codeK_nl (xs ps : List ByteArray) (ig : List Int) (a b : Nat) (ha : a ≤ 20) (hb : b ≤ 20) : codeK xs ps ig a = codeK xs ps ig b := by
  unfold codeK; rw [if_neg (by omega : ¬ 20 < a), if_neg (by omega : ¬ 20 < b)]
theorem keyP_ok (xs : List ByteArray) (s : ByteArray) (hx : xs.length ≤ 40) : ∀ n ∈ keyP xs s, 0 ≤ n ∧ n < 100 := by
  intro n hn
  rcases keysW_ok xs _ n hn with h | h <;> omega

set_option maxHeartbeats 1000000 in
theorem tSK_impl (A : Option Addr) (n c : Nat) (xs : List ByteArray) (s : ByteArray) (w : World) (hbig : n ≤ 1048576) (hs : ∀ x ∈ xs, x.size ≤ maxLen) (h : TextAt w w.heap.size A n xs) (hsz : s.size ≤ 1048576) (hsh : w.ShapedOpen Tryd.prog) :
    Calls Tryd.prog 34 #[.slice A n c, .string s] w fun e w' => e = .returned (skV xs s) ∧ Below w.heap.size w w' := by
  have ho : SrcT (w.alloc (.cells #[.string s] 9)) (some ⟨w.heap.size, 0, none⟩) 1 1 [s] := .inr ⟨w.heap.size, 0, rfl, by simp, rfl, fun j x hx => by
    match j, hx with
    | 0, hx => obtain rfl : s = x := by simpa using hx
               rw [World.cell?_alloc_at _ _ _ _ rfl]; rfl⟩
  have hba : Below w.heap.size w (w.alloc (.cells #[.string s] 9)) := (Below.refl _ _).alloc (Nat.le_refl _) _
  have CK := Lib.hid (cKeysOf A none none (some ⟨w.heap.size, 0, none⟩) n 0 0 1 c 0 0 1 xs [] [s] [] (w.alloc (.cells #[.string s] 9)) hbig hs ((h.below hba (Nat.le_refl _)).more (by simp)) (.inl ⟨rfl, rfl, rfl, rfl⟩) (by omega) (by simp) ⟨rfl, fun h => absurd h (by omega)⟩ (by unfold maxLen; omega) ho (by omega) (by simp; omega) (shaped_below hsh hba))
  clear h ho hsh hs
  rw [List.nil_append] at CK
  have HB := Lib.hid hba
  clear hba
  go_enter Tryd.func34, Tryd.ntmps34
  go_wp2_with fail
  refine CK.out.mono ?_
  rintro e w1 (⟨h1, rfl, h2⟩ | ⟨h1, g, vs, rfl, hown, hg1, hg2, hks, h2⟩)
  · have hbw : Below w.heap.size w w1 := HB.out.trans (h2.mono HB.out.size)
    have hd : (codeK xs [s] [] 0 != 0) = true := by simp [h1]
    have HV := Lib.hid (skV_no xs s h1)
    clear h1 CK
    go_wp2_with fail
    go_ret2
    exact ⟨by rw [HV.out]; rfl, hbw⟩
  · have hbw : Below w.heap.size w w1 := HB.out.trans (h2.mono HB.out.size)
    have hz := codeK_zero h1
    have HV := Lib.hid (skV_yes xs s h1)
    have hph : phraseB s = true := by have := hz.2.1; unfold phrasesB at this; simpa using this
    have hcp : canP xs s = true := by have := hz.2.2.2.1; simpa using this
    have hlx := (alpha_len xs hz.1).2
    have hlen := keyP_len xs s hph
    have hpos := key_pos xs s hph hcp
    have hok := keyP_ok xs s hlx
    obtain ⟨v0, hv0⟩ : ∃ v0, vs[0]? = some v0 := ⟨vs[0]'(by have := hks.1; simp at this; omega), List.getElem?_eq_getElem _⟩
    obtain ⟨b, cb, rfl, hb1, hb2, hb3, hb4, hb5⟩ := hks.2 0 v0 (keyP xs s) hv0 rfl
    have hc0 : w1.cell? ⟨g, 0, none⟩ = some (.slice (some ⟨b, 0, none⟩) (keyP xs s).length cb) := (hown.cellAt 0 (by simp)).trans hv0
    have CJ := Lib.hid (cJoinE b cb (keyP xs s).length (keyP xs s) w1 rfl hpos (by omega) hok hb2 hb5)
    obtain ⟨K, hK⟩ : ∃ K, K = (keyP xs s).length := ⟨_, rfl⟩
    rw [← hK] at CJ hc0 hlen hpos
    have HO := Lib.hid hown
    clear hK h1 CK hz hks hb5 hok hown hcp hph
    go_wp2_with fail
    refine CJ.out.mono ?_
    rintro e w2 ⟨rfl, hb6⟩
    go_wp2_with fail
    go_ret2
    exact ⟨by rw [HV.out]; rfl, hbw.trans (hb6.mono hbw.size)⟩

theorem keptW_none (xs : List ByteArray) (y : ByteArray) : keptW xs [] y = idxL xs y := by unfold keptW; simp
theorem numB_zero : numB 0 = ⟨#[48]⟩ := by rw [numB_pos 0 (by omega), decB_small _ (by decide)]; rfl
theorem catE_zero (l : List Int) : catE (l ++ [0]) = catE l ++ ⟨#[48]⟩ := by rw [catE_snoc, numB_zero]

set_option maxHeartbeats 4000000 in
set_option maxRecDepth 100000 in
theorem tSK_spec (A : Option Addr) (n c : Nat) (xs : List ByteArray) (s : ByteArray) (w : World) (hbig : n ≤ 1048576) (hs : ∀ x ∈ xs, x.size ≤ maxLen) (h : TextAt w w.heap.size A n xs) (hsz : s.size ≤ 1048576) :
    Calls Tryd.prog 33 #[.slice A n c, .string s] w fun e w' => e = .returned (skV xs s) ∧ Below w.heap.size w w' := by
  have H := Lib.hid h
  have hba : Below w.heap.size w ((w.alloc (.cells #[.string s] 9)).alloc (.cells #[] 2)) := ((Below.refl _ _).alloc (Nat.le_refl _) _).alloc (by simp) _
  have HB := Lib.hid hba
  have CC := Lib.hid (cCode6 A (some ⟨w.heap.size, 0, none⟩) (some ⟨w.heap.size + 1, 0, none⟩) n 1 0 c 1 0 xs [s] [] ((w.alloc (.cells #[.string s] 9)).alloc (.cells #[] 2)) hbig hs ((h.below hba (Nat.le_refl _)).more hba.size)
    ⟨rfl, fun _ => ⟨w.heap.size, 0, rfl, by simp; omega, fun j x hx => by
      match j, hx with
      | 0, hx => obtain rfl : s = x := by simpa using hx
                 rw [World.cell?_alloc_old _ _ _ (by simp), World.cell?_alloc_at _ _ _ _ rfl]; rfl⟩⟩ (by omega) (by simp; omega) ⟨rfl, fun h => absurd h (by omega)⟩ (by unfold maxLen; omega))
  rw [codeK_nl xs [s] [] 1 0 (by omega) (by omega)] at CC
  clear h hs hba
  go_enter Tryd.func33, Tryd.ntmps33
  go_wp2_with fail
  refine (show Calls Tryd.prog 44 _ _ _ from CC.out).mono ?_
  rintro e w1 ⟨rfl, hb1⟩
  have hbw : Below w.heap.size w w1 := HB.out.trans (hb1.mono HB.out.size)
  by_cases hcode : codeK xs [s] [] 0 = 0
  · have hz := codeK_zero hcode
    have HV := Lib.hid (skV_yes xs s hcode)
    have hph : phraseB s = true := by have := hz.2.1; unfold phrasesB at this; simpa using this
    have hcp : canP xs s = true := by have := hz.2.2.2.1; simpa using this
    have hlx := (alpha_len xs hz.1).2
    have hd : (codeK xs [s] [] 0 != 0) = false := by simp [hcode]
    have hba2 : Below w.heap.size w (w1.alloc (.cells #[] 2)) := hbw.alloc hbw.size _
    have CS := Lib.hid (cSplg A (some ⟨w1.heap.size, 0, none⟩) n 0 c 0 xs s [] (w1.alloc (.cells #[] 2)) hz.1 ((H.out.below hba2 (Nat.le_refl _)).more hba2.size) hsz hph hcp ⟨rfl, fun h => absurd h (by omega)⟩ (by unfold maxLen; omega))
    have hpp := phrase_parts s hph
    have hwd := words_le _ hpp.1
    have HB2 := Lib.hid hba2
    unfold keyP at HV
    unfold keptP at CS
    obtain ⟨ws, hws⟩ : ∃ ws, ws = spaceB s := ⟨_, rfl⟩
    rw [← hws] at HV CS hpp hwd
    have hm8 : ws.length ≤ 8 := hpp.2.1
    have HWD := Lib.hid hwd
    clear hws hpp hwd hz hph hcp hcode hba2 CC hb1
    have hks : (ws.map (keptW xs [])).length = ws.length := List.length_map ..
    have HKS := Lib.hid hks
    clear hks
    go_wp2_with fail
    refine CS.out.mono ?_
    rintro e w2 ⟨v, vs, rfl, hown, hir, hb2⟩
    rw [HKS.out] at hown
    obtain ⟨m, hm⟩ : ∃ m, m = ws.length := ⟨_, rfl⟩
    rw [← hm] at hown hm8
    have HM := Lib.hid hm
    have HIR := Lib.hid hir
    have hbw2 : Below w.heap.size w w2 := HB2.out.trans (hb2.mono HB2.out.size)
    have hvf : ∃ C cc, v = .slice C m cc := by
      rcases hown.2 with ⟨rfl, h0⟩ | ⟨g, cap, cur, rfl, _⟩
      · exact ⟨none, 0, by rw [h0]⟩
      · exact ⟨_, _, rfl⟩
    obtain ⟨C, cc, rfl⟩ := hvf
    clear hm hir CS hb2
    go_wp2_with fail
    go_loopw [7, 9] (fun o i wr => ∃ (k : Nat) (t : ByteArray), k ≤ m ∧ i = .int .i64 k ∧ o = .string t ∧ t.size ≤ 40 * k ∧ Hid (t = catE (keysW xs (ws.take k))) ∧ Below w2.heap.size w2 wr) (fun _ i _ => m - (intOf i).toNat)
    case atStart => exact ⟨0, ByteArray.empty, Nat.zero_le _, rfl, rfl, Nat.zero_le _, Lib.hid rfl, Below.refl _ _⟩
    case round =>
      obtain ⟨k, t, hk, rfl, rfl, ht, HT, hbk⟩ := hrel
      obtain ⟨wo, rfl⟩ : ∃ wo : World, wo = wr := ⟨_, rfl⟩
      by_cases hlt : k < m
      · obtain ⟨y, hy⟩ : ∃ y, ws[k]? = some y := ⟨ws[k]'(by have := HM.out; omega), List.getElem?_eq_getElem _⟩
        have hkl : k < vs.length := by have := hown.1; omega
        obtain ⟨u, hu⟩ : ∃ u, vs[k]? = some u := ⟨vs[k]'hkl, List.getElem?_eq_getElem _⟩
        have hkeep : (ws.map (keptW xs []))[k]? = some (idxL xs y) := by rw [List.getElem?_map, hy]; show some (keptW xs [] y) = _; rw [keptW_none]
        have hiy := HIR.out.2 k u _ hu hkeep
        have hys := HWD.out y (List.mem_of_getElem? hy)
        have hrng := idx_range xs y.size y (Nat.le_refl _)
        have hlen := idx_len xs y
        obtain ⟨g, cg, hv, _, hgl⟩ := World.ownsRow.form hown (by omega)
        obtain ⟨rfl, rfl⟩ : C = some ⟨g, 0, none⟩ ∧ cc = cg := by injection hv with e1 e2 e3; exact ⟨e1, e3⟩
        obtain ⟨Au, cu, rfl⟩ := irow_form hiy
        have hcell0 : w2.cell? ⟨g, k, none⟩ = some (.slice Au (idxL xs y).length cu) := (hown.cellAt k (by omega)).trans hu
        have HCELL : Hid (∀ W, Below w2.heap.size w2 W → W.cell? ⟨g, k, none⟩ = some (.slice Au (idxL xs y).length cu)) := Lib.hid (fun W hW => (hW.cell (p := ⟨g, k, none⟩) hgl).trans hcell0)
        have hkeyw : keyW xs y = (idxL xs y).map fun n => 10 + n := rfl
        have HKW : Hid (∀ pre, addK pre (idxL xs y) (idxL xs y).length = pre ++ keyW xs y) := Lib.hid (fun pre => addK_all pre xs y)
        have HKS1 : Hid (0 < k → keysW xs (ws.take (k + 1)) = (keysW xs (ws.take k) ++ [0]) ++ keyW xs y) := Lib.hid (fun h0 => by rw [keysW_step xs ws k y h0 hy, List.append_assoc]; rfl)
        have HKS0 : Hid (k = 0 → keysW xs (ws.take (k + 1)) = keysW xs (ws.take k) ++ keyW xs y) := Lib.hid (fun h0 => by subst h0; exact keysW_first xs ws y hy)
        have hnum : ∀ (j : Nat) i, (idxL xs y)[j]? = some i → ∃ b, Au = some ⟨b, 0, none⟩ ∧ b < w2.heap.size ∧ w2.cell? ⟨b, j, none⟩ = some (.int .i64 i) := fun j i hi => by
          have hj := (List.getElem?_eq_some_iff.1 hi).1
          obtain ⟨b, cb, hv, _, hbl⟩ := World.ownsRow.form hiy (by omega)
          injection hv with e1 e2 e3
          subst e1
          exact ⟨b, rfl, hbl, (hiy.cellAt j (by omega)).trans (intV_at _ _ _ hi)⟩
        obtain ⟨ix, hix⟩ : ∃ ix, ix = idxL xs y := ⟨_, rfl⟩
        rw [← hix] at hrng hlen HKW hnum HCELL
        have HNUM := Lib.hid hnum
        have HRNG := Lib.hid hrng
        clear hix hnum hrng hkeyw hcell0 hiy hu hy hkeep hv
        obtain ⟨L, hL⟩ : ∃ L, L = ix.length := ⟨_, rfl⟩
        rw [← hL] at hlen HKW HCELL
        have HL := Lib.hid hL
        have hL16 : L ≤ 16 := by omega
        clear hL hlen
        by_cases hk0 : 0 < k
        · have HPRE : Hid (t ++ ⟨#[48]⟩ = catE (addK (keysW xs (ws.take k) ++ [0]) ix 0)) := Lib.hid (by rw [addK_zero, catE_zero, HT.out])
          have hts : (t ++ (⟨#[48]⟩ : ByteArray)).size ≤ 40 * k + 1 := by rw [ByteArray.size_append]; show t.size + 1 ≤ _; omega
          have HFIN : Hid (addK (keysW xs (ws.take k) ++ [0]) ix L = keysW xs (ws.take (k + 1))) := Lib.hid (by rw [HKW.out, HKS1.out hk0])
          go_wp2_with fail
          go_loopw [7, 10] (fun o i wr => ∃ (j : Nat) (t3 : ByteArray), j ≤ L ∧ i = .int .i64 j ∧ o = .string t3 ∧ t3.size ≤ 40 * k + 1 + 2 * j ∧ Hid (t3 = catE (addK (keysW xs (ws.take k) ++ [0]) ix j)) ∧ Below w2.heap.size w2 wr) (fun _ i _ => L - (intOf i).toNat)
          case atStart => exact ⟨0, t ++ ⟨#[48]⟩, Nat.zero_le _, rfl, rfl, by omega, HPRE, hbk⟩
          case round =>
            obtain ⟨j, t3, hj, rfl, rfl, ht3, HT3, hbj⟩ := hrel
            have hcy := HCELL.out wr hbj
            by_cases hjl : j < L
            · obtain ⟨i, hi⟩ : ∃ i, ix[j]? = some i := ⟨ix[j]'(by have := HL.out; omega), List.getElem?_eq_getElem _⟩
              obtain ⟨b, rfl, hbl, hci0⟩ := HNUM.out j i hi
              have hci := (hbj.cell (p := ⟨b, j, none⟩) hbl).trans hci0
              have hri := HRNG.out i (List.mem_of_getElem? hi)
              have CD : Hid (∀ W, Calls Tryd.prog 61 #[.int .i64 (i + 10)] W fun e w' => e = .returned (.string (numB (10 + i))) ∧ Below W.heap.size W w') := Lib.hid (fun W => by
                have h1 := cDec (i + 10).toNat (i + 10).toNat W (Nat.le_refl _) (by omega)
                rw [show (((i + 10).toNat : Nat) : Int) = i + 10 by omega] at h1
                rw [show (10 + i) = i + 10 by omega, numB_pos (i + 10) (by omega)]
                exact h1)
              have hns := numB_small (10 + i) (by omega) (by omega)
              have HST := Lib.hid (addK_step (keysW xs (ws.take k) ++ [0]) ix j i hi)
              clear hi hci0
              go_wp2_with (go_at_call 61; refine (CD.out _).mono ?_; rintro e w5 ⟨rfl, hb5⟩)
              go_roundw
              case rel => exact ⟨j + 1, _, by omega, by go_num, rfl, by rw [ByteArray.size_append]; omega, Lib.hid (by rw [← HST.out, catE_snoc, HT3.out]), hbj.trans (hb5.mono hbj.size)⟩
              case measure => simp [intOf]; omega
            · obtain rfl : j = L := by omega
              have ht4 := HT3.out
              rw [HFIN.out] at ht4
              have HT4 := Lib.hid ht4
              clear ht4
              go_wp2_with fail
              go_roundw
              case rel => exact ⟨k + 1, _, by omega, by go_num, rfl, by omega, HT4, hbj⟩
              case measure => simp [intOf]; omega
        · have HPRE : Hid (t = catE (addK (keysW xs (ws.take k)) ix 0)) := Lib.hid (by rw [addK_zero, HT.out])
          have hts : t.size ≤ 40 * k + 1 := by omega
          have HFIN : Hid (addK (keysW xs (ws.take k)) ix L = keysW xs (ws.take (k + 1))) := Lib.hid (by rw [HKW.out, HKS0.out (by omega)])
          go_wp2_with fail
          go_loopw [7, 10] (fun o i wr => ∃ (j : Nat) (t3 : ByteArray), j ≤ L ∧ i = .int .i64 j ∧ o = .string t3 ∧ t3.size ≤ 40 * k + 1 + 2 * j ∧ Hid (t3 = catE (addK (keysW xs (ws.take k)) ix j)) ∧ Below w2.heap.size w2 wr) (fun _ i _ => L - (intOf i).toNat)
          case atStart => exact ⟨0, t, Nat.zero_le _, rfl, rfl, by omega, HPRE, hbk⟩
          case round =>
            obtain ⟨j, t3, hj, rfl, rfl, ht3, HT3, hbj⟩ := hrel
            have hcy := HCELL.out wr hbj
            by_cases hjl : j < L
            · obtain ⟨i, hi⟩ : ∃ i, ix[j]? = some i := ⟨ix[j]'(by have := HL.out; omega), List.getElem?_eq_getElem _⟩
              obtain ⟨b, rfl, hbl, hci0⟩ := HNUM.out j i hi
              have hci := (hbj.cell (p := ⟨b, j, none⟩) hbl).trans hci0
              have hri := HRNG.out i (List.mem_of_getElem? hi)
              have CD : Hid (∀ W, Calls Tryd.prog 61 #[.int .i64 (i + 10)] W fun e w' => e = .returned (.string (numB (10 + i))) ∧ Below W.heap.size W w') := Lib.hid (fun W => by
                have h1 := cDec (i + 10).toNat (i + 10).toNat W (Nat.le_refl _) (by omega)
                rw [show (((i + 10).toNat : Nat) : Int) = i + 10 by omega] at h1
                rw [show (10 + i) = i + 10 by omega, numB_pos (i + 10) (by omega)]
                exact h1)
              have hns := numB_small (10 + i) (by omega) (by omega)
              have HST := Lib.hid (addK_step (keysW xs (ws.take k)) ix j i hi)
              clear hi hci0
              go_wp2_with (go_at_call 61; refine (CD.out _).mono ?_; rintro e w5 ⟨rfl, hb5⟩)
              go_roundw
              case rel => exact ⟨j + 1, _, by omega, by go_num, rfl, by rw [ByteArray.size_append]; omega, Lib.hid (by rw [← HST.out, catE_snoc, HT3.out]), hbj.trans (hb5.mono hbj.size)⟩
              case measure => simp [intOf]; omega
            · obtain rfl : j = L := by omega
              have ht4 := HT3.out
              rw [HFIN.out] at ht4
              have HT4 := Lib.hid ht4
              clear ht4
              go_wp2_with fail
              go_roundw
              case rel => exact ⟨k + 1, _, by omega, by go_num, rfl, by omega, HT4, hbj⟩
              case measure => simp [intOf]; omega
      · have hall : ws.take k = ws := List.take_of_length_le (by have := HM.out; omega)
        have ht2 := HT.out
        rw [hall] at ht2
        have HT2 := Lib.hid ht2
        clear ht2 hall HT
        go_wp2_with fail
        go_ret2
        exact ⟨by rw [HV.out, HT2.out]; rfl, hbw2.trans (hbk.mono hbw2.size)⟩
  · have hd : (codeK xs [s] [] 0 != 0) = true := by simp [hcode]
    have HV := Lib.hid (skV_no xs s hcode)
    clear hcode CC
    go_wp2_with fail
    go_ret2
    exact ⟨by rw [HV.out]; rfl, hbw⟩
end Go.Proofs.YtjockiedganokaaDoor
