/-
  The contract of spec.l06Spellings: the spellings of the words of a phrase, without the letters that are ignored.
-/
import Derived.Test.YtjockiedganokaaDoorCodeS
import Derived.Test.YtjockiedganokaaDoorOrdPlain
namespace Go.Proofs.YtjockiedganokaaDoor
set_option linter.unusedVariables false
open Go.RowKit

theorem cHas6 (A : Option Addr) (n c B : Nat) (ig : List Int) (x : Int) (w : World) (hbig : n ≤ maxLen) (h : NumAt w B A n ig) :
    Calls Tryd.prog 96 #[.slice A n c, .int .i64 x] w fun e w' => e = .returned (.bool (decide (x ∈ ig))) ∧ w = w' := by
  unfold maxLen at hbig
  have HL := Lib.hid h.1
  have H := Lib.hid h
  clear h
  go_enter Tryd.func96, Tryd.ntmps96
  go_wp2
  go_loop [5] (fun i => ∃ k : Nat, k ≤ n ∧ i = .int .i64 k ∧ Hid (x ∉ ig.take k)) (fun i => n - (intOf i).toNat)
  case atStart => exact ⟨0, Nat.zero_le _, rfl, Lib.hid (by simp)⟩
  case round =>
    obtain ⟨k, hk, rfl, HA⟩ := hrel
    by_cases hlt : k < n
    · obtain ⟨y, hy⟩ : ∃ y, ig[k]? = some y := ⟨ig[k]'(by have := HL.out; omega), List.getElem?_eq_getElem _⟩
      obtain ⟨b, o, rfl, _, hcx⟩ := H.out.row hy
      have HY := Lib.hid hy
      clear hy
      by_cases he : y = x
      · have hd : (y == x) = true := by simp [he]
        have HR := Lib.hid (show decide (x ∈ ig) = true from decide_eq_true (by rw [← he]; exact List.mem_of_getElem? HY.out))
        clear he
        go_wp2
        go_ret
        exact ⟨ret_bool HR.out.symm, rfl⟩
      · have hd : (y == x) = false := by simp [he]
        have HE := Lib.hid he
        clear he
        go_wp2
        go_round
        case rel => exact ⟨k + 1, by omega, by go_num, Lib.hid (by
          have hl := (List.getElem?_eq_some_iff.1 HY.out).1
          have hh : ig[k] = y := (List.getElem?_eq_some_iff.1 HY.out).2
          rw [List.take_succ_eq_append_getElem hl, hh, List.mem_append, List.mem_singleton]
          rintro (h | h)
          · exact HA.out h
          · exact HE.out h.symm)⟩
        case measure => simp [intOf]; omega
    · have HR := Lib.hid (show decide (x ∈ ig) = false from decide_eq_false (by
        have h1 := HA.out
        rw [List.take_of_length_le (by have := HL.out; omega)] at h1
        exact h1))
      go_wp2
      go_ret
      exact ⟨ret_bool HR.out.symm, rfl⟩

theorem rows_apart {w : World} {B B' s s' n n' : Nat} {T T' : TypeId} {v v' : Value} {xs xs' : List Value} (hT : T ≠ T') (h : w.ownsRow B T s v n xs) (h' : w.ownsRow B' T' s' v' n' xs') :
    v.ownBlock = none ∨ v.ownBlock ≠ v'.ownBlock := by
  rcases h.2 with ⟨rfl, _⟩ | ⟨g, cap, cur, rfl, _, h3, _⟩
  · exact .inl rfl
  · right
    intro e
    rcases h'.2 with ⟨rfl, _⟩ | ⟨g', cap', cur', rfl, _, h3', _⟩
    · cases e
    · simp [Value.ownBlock] at e
      subst e
      rw [h3] at h3'
      simp at h3'
      exact hT h3'.2
/-- The value v is a row of one's own with the numbers k. -/
def IRow (w : World) (v : Value) (k : List Int) : Prop := w.ownsRow 0 2 1 v k.length (intV k)
def IRows (w : World) (vs : List Value) (ks : List (List Int)) : Prop := vs.length = ks.length ∧ ∀ (j : Nat) v k, vs[j]? = some v → ks[j]? = some k → IRow w v k
theorem IRows.nil (w : World) : IRows w [] [] := ⟨rfl, fun j v k h _ => by simp at h⟩
theorem IRow.below {w w' : World} {v : Value} {k : List Int} (h : IRow w v k) (hb : Below w.heap.size w w') : IRow w' v k :=
  World.ownsRow.kept h (bgr hb none) (by rcases hh : v.ownBlock with _ | q; exact .inl rfl; exact .inr (by simp))
theorem IRows.below {w w' : World} {vs : List Value} {ks : List (List Int)} (h : IRows w vs ks) (hb : Below w.heap.size w w') : IRows w' vs ks := ⟨h.1, fun j v k h1 h2 => (h.2 j v k h1 h2).below hb⟩
theorem IRows.grown {w w' : World} {vs : List Value} {ks : List (List Int)} {B n : Nat} {v : Value} {xs : List Value} (h : IRows w vs ks) (hown : w.ownsRow B 25 1 v n xs) (hg : w.grownBy w' v.ownBlock) : IRows w' vs ks :=
  ⟨h.1, fun j u k h1 h2 => World.ownsRow.kept (h.2 j u k h1 h2) hg (rows_apart (by decide) (h.2 j u k h1 h2) hown)⟩
theorem IRows.snoc {w : World} {vs : List Value} {ks : List (List Int)} {v : Value} {k : List Int} (h : IRows w vs ks) (hv : IRow w v k) : IRows w (vs ++ [v]) (ks ++ [k]) := by
  refine ⟨by rw [List.length_append, List.length_append, h.1]; rfl, fun j u l hu hl => ?_⟩
  have hlen := h.1
  rcases Nat.lt_or_ge j vs.length with h1 | h1
  · rw [List.getElem?_append_left h1] at hu
    rw [List.getElem?_append_left (by omega)] at hl
    exact h.2 j u l hu hl
  · rw [List.getElem?_append_right h1] at hu
    rw [List.getElem?_append_right (by omega)] at hl
    have h2 : j - vs.length = 0 := by
      have := (List.getElem?_eq_some_iff.1 hu).1
      simp at this; omega
    rw [h2] at hu
    rw [show j - ks.length = 0 by omega] at hl
    simp at hu hl
    subst hu; subst hl
    exact hv
theorem info_ints : (Tryd.prog.info? 25).map (fun i => (i.zero, i.size, i.bytes)) = some (some (.slice none 0 0), 1, 24) := by kernel_rfl
theorem irow_form {w : World} {b n : Nat} {v : Value} {xs : List Value} (h : w.ownsRow b 2 1 v n xs) : ∃ A c, v = .slice A n c := by
  rcases h.2 with ⟨rfl, h0⟩ | ⟨g, cap, cur, rfl, _⟩
  · exact ⟨none, 0, by rw [h0]⟩
  · exact ⟨_, _, rfl⟩
def notIn (ig : List Int) (l : List Int) : List Int := l.filter fun n => !decide (n ∈ ig)
theorem notIn_yes (ig ix : List Int) (j : Nat) (x : Int) (h : ix[j]? = some x) (hx : x ∉ ig) : notIn ig (ix.take j) ++ [x] = notIn ig (ix.take (j + 1)) := by
  have hl := (List.getElem?_eq_some_iff.1 h).1
  have he : ix[j] = x := (List.getElem?_eq_some_iff.1 h).2
  unfold notIn
  rw [List.take_succ_eq_append_getElem hl, he, List.filter_append, List.filter_cons_of_pos (by simp [hx])]; rfl
theorem notIn_no (ig ix : List Int) (j : Nat) (x : Int) (h : ix[j]? = some x) (hx : x ∈ ig) : notIn ig (ix.take j) = notIn ig (ix.take (j + 1)) := by
  have hl := (List.getElem?_eq_some_iff.1 h).1
  have he : ix[j] = x := (List.getElem?_eq_some_iff.1 h).2
  unfold notIn
  rw [List.take_succ_eq_append_getElem hl, he, List.filter_append, List.filter_cons_of_neg (by simp [hx])]; simp
/-- What spec.l06Spellings answers: a row of rows of one's own. -/
def SplgPost (ks : List (List Int)) (w : World) (e : Ending) (w' : World) : Prop :=
  ∃ (v : Value) (vs : List Value), e = .returned v ∧ w'.ownsRow w.heap.size 25 1 v ks.length vs ∧ IRows w' vs ks ∧ Below w.heap.size w w'

set_option maxHeartbeats 4000000 in
set_option maxRecDepth 100000 in
theorem cSplg (A A2 : Option Addr) (n n2 c c2 : Nat) (xs : List ByteArray) (s : ByteArray) (ig : List Int) (w : World) (ha : alphaB xs = true) (h : TextAt w w.heap.size A n xs) (hsz : s.size ≤ 1048576) (hp : phraseB s = true) (hc : canP xs s = true) (h2 : NumAt w w.heap.size A2 n2 ig) (hbg2 : n2 ≤ maxLen) :
    Calls Tryd.prog 60 #[.slice A n c, .string s, .slice A2 n2 c2] w (SplgPost (keptP xs ig s) w) := by
  obtain ⟨i0, hi0, hz0, hz1, hz2⟩ := info_parts info_i64
  obtain ⟨j0, hj0, hy0, hy1, hy2⟩ := info_parts info_ints
  have hpx := phrase_parts s hp
  have hwd := words_le _ hpx.1
  have CP := Lib.hid (cPhrase_ok s w (by omega) hpx.1)
  rw [decide_eq_true hpx.2.1] at CP
  have hwl := hpx.2.1
  have hwp := hpx.2.2
  have HA := Lib.hid ha
  have H := Lib.hid h
  have H2 := Lib.hid h2
  have hcw : ∀ y ∈ spaceB s, spellsB xs y = true := by unfold canP canW at hc; rw [List.all_eq_true] at hc; exact hc
  unfold keptP
  obtain ⟨ws, hws⟩ : ∃ ws, ws = spaceB s := ⟨_, rfl⟩
  rw [← hws] at CP hwd hwl hwp hcw ⊢
  clear hws hpx h h2 ha hp hc
  have HCW := Lib.hid hcw
  have HWD := Lib.hid hwd
  obtain ⟨m, hm⟩ : ∃ m, m = ws.length := ⟨_, rfl⟩
  rw [← hm] at CP hwl hwp
  have HM := Lib.hid hm
  clear hm hcw hwd
  go_enter Tryd.func60, Tryd.ntmps60
  go_wp2_with fail
  refine CP.out.mono ?_
  rintro e w1 ⟨v, rfl, hown, hb1⟩
  obtain ⟨g, cap, rfl, hg1, hg2⟩ := World.ownsRow.form hown hwp
  have HC1 : Hid (∀ (j : Nat) x, ws[j]? = some x → w1.cell? ⟨g, j, none⟩ = some (.string x)) := Lib.hid (fun j x hx => (hown.cellAt j (by have := (List.getElem?_eq_some_iff.1 hx).1; have := HM.out; omega)).trans (strV_at _ _ _ hx))
  clear hown CP
  go_wp2_with fail
  go_loopw [9, 10] (fun ov i wr => ∃ (k : Nat) (v : Value) (vs : List Value), k ≤ m ∧ i = .int .i64 k ∧ v = ov ∧ wr.ownsRow w1.heap.size 25 1 v k vs ∧ Hid (IRows wr vs ((ws.take k).map (keptW xs ig))) ∧ Below w1.heap.size w1 wr) (fun _ i _ => m - (intOf i).toNat)
  case atStart => exact ⟨0, _, [], Nat.zero_le _, rfl, rfl, World.ownsRow_lit (e := 25) (base := w1.heap.size) (size := 1) w1 #[] 0 (Nat.le_refl _) (by decide) rfl, Lib.hid (IRows.nil _), (Below.refl _ _).alloc (Nat.le_refl _) _⟩
  case round =>
    obtain ⟨k, v, vs, hk, rfl, rfl, hown, HR, hbw⟩ := hrel
    obtain ⟨wo, rfl⟩ : ∃ wo : World, wo = wr := ⟨_, rfl⟩
    have hbw0 : Below w.heap.size w wo := hb1.trans (hbw.mono hb1.size)
    by_cases hlt : k < m
    · obtain ⟨y, hy⟩ : ∃ y, ws[k]? = some y := ⟨ws[k]'(by have := HM.out; omega), List.getElem?_eq_getElem _⟩
      have hcy := (hbw.cell (p := ⟨g, k, none⟩) hg2).trans (HC1.out k y hy)
      have hys := HWD.out y (List.mem_of_getElem? hy)
      have hsp := HCW.out y (List.mem_of_getElem? hy)
      have CS := Lib.hid (tSpell_yes A n c xs y wo HA.out (by omega) ((H.out.below hbw0 (Nat.le_refl _)).more hbw0.size) hsp)
      have hpos := idx_pos xs y hsp hys.1
      have hlen := idx_len xs y
      have htk : (ws.take (k + 1)).map (keptW xs ig) = (ws.take k).map (keptW xs ig) ++ [notIn ig (idxL xs y)] := by
        have hl := (List.getElem?_eq_some_iff.1 hy).1
        have he : ws[k] = y := (List.getElem?_eq_some_iff.1 hy).2
        rw [List.take_succ_eq_append_getElem hl, he, List.map_append]; rfl
      obtain ⟨ix, hix⟩ : ∃ ix, ix = idxL xs y := ⟨_, rfl⟩
      rw [← hix] at CS hpos hlen htk
      clear hix hsp hy
      have HTK := Lib.hid htk
      obtain ⟨L, hL⟩ : ∃ L, L = ix.length := ⟨_, rfl⟩
      rw [← hL] at CS hpos hlen
      have HL := Lib.hid hL
      have hL16 : L ≤ 16 := by omega
      clear hL hlen hys htk
      go_wp2_with fail
      refine CS.out.mono ?_
      rintro e w2 ⟨v2, rfl, hown2, hb2⟩
      obtain ⟨gs, cs, rfl, hs1, hs2⟩ := World.ownsRow.form hown2 hpos
      have HCS : Hid (∀ (j : Nat) i, ix[j]? = some i → w2.cell? ⟨gs, j, none⟩ = some (.int .i64 i)) := Lib.hid (fun j i hi => (hown2.cellAt j (by have := (List.getElem?_eq_some_iff.1 hi).1; have := HL.out; omega)).trans (intV_at _ _ _ hi))
      have hb20 : Below w.heap.size w w2 := hbw0.trans (hb2.mono hbw0.size)
      clear hown2 CS
      go_wp2_with fail
      go_loopw [13, 14] (fun kv i wr3 => ∃ (j kl : Nat) (v3 : Value), j ≤ L ∧ i = .int .i64 j ∧ v3 = kv ∧ kl ≤ j ∧ Hid (kl = (notIn ig (ix.take j)).length) ∧ wr3.ownsRow w2.heap.size 2 1 v3 kl (intV (notIn ig (ix.take j))) ∧ Below w2.heap.size w2 wr3) (fun _ i _ => L - (intOf i).toNat)
      case atStart => exact ⟨0, 0, _, Nat.zero_le _, rfl, rfl, Nat.le_refl _, Lib.hid rfl, World.ownsRow_lit (e := 2) (base := w2.heap.size) (size := 1) w2 #[] 0 (Nat.le_refl _) (by decide) rfl, (Below.refl _ _).alloc (Nat.le_refl _) _⟩
      case round =>
        obtain ⟨j, kl, v3, hj, rfl, rfl, hkl, HKL, hown3, hb3⟩ := hrel
        have hb30 : Below w.heap.size w wr := hb20.trans (hb3.mono hb20.size)
        by_cases hjl : j < L
        · obtain ⟨i, hi⟩ : ∃ i, ix[j]? = some i := ⟨ix[j]'(by have := HL.out; omega), List.getElem?_eq_getElem _⟩
          have hci := (hb3.cell (p := ⟨gs, j, none⟩) hs2).trans (HCS.out j i hi)
          have CH := Lib.hid (cHas6 A2 n2 c2 _ ig i wr hbg2 (H2.out.below hb30 (Nat.le_refl _)))
          have HI := Lib.hid hi
          clear hi
          by_cases hin : i ∈ ig
          · rw [decide_eq_true hin] at CH
            have HN := Lib.hid (notIn_no ig ix j i HI.out hin)
            clear hin
            go_wp2_with (go_at_call 96; refine CH.out.mono ?_; rintro e w' ⟨rfl, rfl⟩)
            go_roundw
            case rel => exact ⟨j + 1, kl, _, by omega, by go_num, rfl, by omega, Lib.hid (by rw [← HN.out]; exact HKL.out), by rw [← HN.out]; exact hown3, hb3⟩
            case measure => simp [intOf]; omega
          · rw [decide_eq_false hin] at CH
            have HN := Lib.hid (notIn_yes ig ix j i HI.out hin)
            clear hin
            go_wp2_with (first
              | (go_at_call 96; refine CH.out.mono ?_; rintro e w' ⟨rfl, rfl⟩)
              | (at_builtin; refine wpList_append_own _ rfl _ _ 25 rfl w2.heap.size 2 i0 _ 1 8 Tryd.underlying25 hi0 hz0 hz1 hz2 rfl (by decide) _ _ _ rfl (hown3.alloc _) ⟨wr.heap.size, 0, none⟩ 1 1 [.int .i64 i] rfl rfl (cell_one_new _ _ _) (by simp [Value.oneCell']) (by unfold maxLen; omega) (by omega) (by have := hb3.size; simp; omega) ?_; intro v5 w5 hown5 hgrow5 _))
            rw [intV_snoc, HN.out] at hown5
            have hb5 : Below w2.heap.size w2 w5 := (hb3.alloc hb3.size _).grown hgrow5 (by have := hb3.size; simp; omega) (fun q hq => (hown3.lt q hq).1)
            clear hgrow5 hown3 hb3 hci hb30
            go_wp2_with fail
            go_roundw
            case rel => exact ⟨j + 1, kl + 1, v5, by omega, by go_num, rfl, by omega, Lib.hid (by rw [← HN.out, List.length_append, HKL.out]; rfl), hown5, hb5⟩
            case measure => simp [intOf]; omega
        · have hall : ix.take j = ix := List.take_of_length_le (by have := HL.out; omega)
          rw [hall] at hown3 HKL
          obtain ⟨A3, c3, rfl⟩ := irow_form hown3
          have hbb : Below wo.heap.size wo wr := hb2.trans (hb3.mono hb2.size)
          have hownk := hown.kept (bgr hbb none) (by rcases hh : v.ownBlock with _ | q; exact .inl rfl; exact .inr (by simp))
          have hir : IRow wr (.slice A3 kl c3) (notIn ig ix) := by
            unfold IRow
            rw [← HKL.out]
            exact rowBase hown3 (Nat.zero_le _)
          have hirs := ((HR.out.below hbb).snoc hir)
          rw [← HTK.out] at hirs
          have hwb : w1.heap.size ≤ wr.heap.size := Nat.le_trans hbw.size hbb.size
          go_wp2_with (at_builtin; refine wpList_append_own _ rfl _ _ 86 rfl w1.heap.size 25 j0 _ 1 24 Tryd.underlying86 hj0 hy0 hy1 hy2 rfl (by decide) _ _ _ rfl (hownk.alloc _) ⟨wr.heap.size, 0, none⟩ 1 1 [.slice A3 kl c3] rfl rfl (cell_one_new _ _ _) (by simp [Value.oneCell']) (by unfold maxLen; omega) (by omega) (by simp; omega) ?_; intro v6 w6 hown6 hgrow6 _)
          have hi6 : Hid (IRows w6 (vs ++ [.slice A3 kl c3]) ((ws.take (k + 1)).map (keptW xs ig))) := Lib.hid ((hirs.below ((Below.refl _ _).alloc (Nat.le_refl _) _)).grown (hownk.alloc _) hgrow6)
          have hb6 : Below w1.heap.size w1 w6 := ((hbw.trans (hbb.mono hbw.size)).alloc hwb _).grown hgrow6 (by simp; omega) (fun q hq => (hownk.lt q hq).1)
          clear hgrow6 hownk hirs hir hown3 hown
          go_wp2_with fail
          go_roundw
          case rel => exact ⟨k + 1, v6, _, by omega, by go_num, rfl, hown6, hi6, hb6⟩
          case measure => simp [intOf]; omega
    · have hall : ws.take k = ws := List.take_of_length_le (by have := HM.out; omega)
      rw [hall] at HR
      have hkl : k = (ws.map (keptW xs ig)).length := by rw [List.length_map]; have := HM.out; omega
      have HK := Lib.hid hkl
      clear hkl hall
      go_wp2_with fail
      go_ret
      exact ⟨v, vs, rfl, by rw [← HK.out]; exact rowBase hown hb1.size, HR.out, hbw0⟩
end Go.Proofs.YtjockiedganokaaDoor
