/-
  The contract of impl.keysOf.
-/
import Derived.Test.YtjockiedganokaaDoorKeyRows
namespace Go.Proofs.YtjockiedganokaaDoor
set_option linter.unusedVariables false
open Go.RowKit

theorem info_key : (Tryd.prog.info? 67).map (fun i => (i.zero, i.size, i.bytes)) = some (some (.slice none 0 0), 1, 24) := by kernel_rfl
theorem tIndices (A : Option Addr) (n c B m : Nat) (ig : List Int) (w : World) (hbig : n ≤ maxLen) (hm : m ≤ 1048576) (h : NumAt w B A n ig) :
    Calls Tryd.prog 71 #[.slice A n c, .int .i64 m] w fun e w' => e = .returned (.bool (allW 0 ((m : Int) - 1) ig)) ∧ w = w' := by
  have CW := Lib.hid (cWithin A n c B ig 0 ((m : Int) - 1) w hbig h)
  clear h
  generalize allW 0 ((m : Int) - 1) ig = r at CW ⊢
  go_enter Tryd.func71, Tryd.ntmps71
  go_wp2_with (go_at_call 105; refine CW.out.mono ?_; rintro e w' ⟨rfl, rfl⟩)
  go_ret
  exact ⟨rfl, rfl⟩
/-- The row behind k stores. -/
def rowK (vs : List Value) (n k : Nat) : List Value := vs ++ List.replicate (n - k) (.slice none 0 0)
theorem rowK_zero (n : Nat) : (madeCells #[Value.slice none 0 0] n).toList = rowK [] n 0 := by
  apply List.ext_getElem?
  intro j
  by_cases h : j < n
  · simp [madeCells, rowK, h, Nat.mod_one]
  · rw [List.getElem?_eq_none (by simp [madeCells]; omega), List.getElem?_eq_none (by simp [rowK]; omega)]
theorem rowK_step (vs : List Value) (n k : Nat) (v : Value) (hl : vs.length = k) (hk : k < n) : (rowK vs n k).set k v = rowK (vs ++ [v]) n (k + 1) := by
  unfold rowK
  rw [List.set_append_right _ _ (by omega), hl, Nat.sub_self]
  obtain ⟨d, hd⟩ : ∃ d, n - k = d + 1 := ⟨n - k - 1, by omega⟩
  rw [hd, show n - (k + 1) = d by omega, List.replicate_succ, List.set_cons_zero, List.append_assoc]; rfl
theorem rowK_all (vs : List Value) (n : Nat) : rowK vs n n = vs := by unfold rowK; simp
theorem KeysAt.snoc {w : World} {g : Nat} {vs : List Value} {ks : List (List Int)} {v : Value} {k : List Int} (h : KeysAt w g vs ks) (hv : KeyAt w g v k) : KeysAt w g (vs ++ [v]) (ks ++ [k]) := by
  refine ⟨by rw [List.length_append, List.length_append, h.1]; rfl, fun j u l hu hl => ?_⟩
  have hlen := h.1
  rcases Nat.lt_or_ge j vs.length with h1 | h1
  · rw [List.getElem?_append_left h1] at hu
    rw [List.getElem?_append_left (by omega)] at hl
    exact h.2 j u l hu hl
  · rw [List.getElem?_append_right h1] at hu
    rw [List.getElem?_append_right (by omega)] at hl
    have h2 : j - vs.length = 0 := by
      have := (List.getElem?_eq_some_iff.1 hu).1
      simp at this; omega
    rw [h2] at hu
    rw [show j - ks.length = 0 by omega] at hl
    simp at hu hl
    subst hu; subst hl
    exact hv
theorem KeysAt.nil (w : World) (g : Nat) : KeysAt w g [] [] := ⟨rfl, fun j v k h _ => by simp at h⟩

set_option maxHeartbeats 4000000 in
set_option maxRecDepth 100000 in
theorem cKeysOf (A A1 A2 A3 : Option Addr) (n n1 n2 n3 c c1 c2 c3 : Nat) (xs ls os : List ByteArray) (ig : List Int) (w : World) (hbig : n ≤ 1048576) (hs : ∀ x ∈ xs, x.size ≤ maxLen) (h : TextAt w w.heap.size A n xs)
    (h1 : SrcT w A1 n1 c1 ls) (hb1 : n1 ≤ 1048576) (hs1 : ∀ x ∈ ls, x.size ≤ 1048576) (h2 : NumAt w w.heap.size A2 n2 ig) (hb2 : n2 ≤ maxLen) (h3 : SrcT w A3 n3 c3 os) (hb3 : n3 ≤ 1048576) (hs3 : ∀ x ∈ os, x.size ≤ 1048576) (hsh : w.ShapedOpen Tryd.prog) :
    Calls Tryd.prog 42 #[.slice A n c, .slice A1 n1 c1, .slice A2 n2 c2, .slice A3 n3 c3] w (KeysPost xs (ls ++ os) ig n1 w) := by
  obtain ⟨i0, hi0, hz0, hz1, hz2⟩ := info_parts info_key
  have CA := Lib.hid (tAlphaOf A n c xs w hbig hs h)
  have HNX := Lib.hid h.1
  have hsz : ∀ x ∈ ls ++ os, x.size ≤ 1048576 := fun x hx => by
    rcases List.mem_append.1 hx with hx | hx
    · exact hs1 x hx
    · exact hs3 x hx
  have hpl : n1 + n3 = (ls ++ os).length := by rw [List.length_append, h1.len, h3.len]
  obtain ⟨ps, hps⟩ : ∃ ps, ps = ls ++ os := ⟨_, rfl⟩
  have H1 := Lib.hid h1
  have H3 := Lib.hid h3
  have H2 := Lib.hid h2
  have HSH := Lib.hid hsh
  have HPS := Lib.hid hps
  rw [← hps] at hsz hpl ⊢
  have HSZ := Lib.hid hsz
  have HPL := Lib.hid hpl
  clear h h1 h2 h3 hsh hs hs1 hs3 hps hsz hpl
  unfold KeysPost
  -- the contract of Concat behind the alphabet's
  have CC : Hid (∀ w1, Below w.heap.size w w1 → Calls Tryd.prog 69 #[.slice (some ⟨w1.heap.size, 0, none⟩) 2 2] (w1.alloc (.cells #[.slice A1 n1 c1, .slice A3 n3 c3] 24)) fun e w' => (∃ C c, e = .returned (.slice C (n1 + n3) c) ∧ w'.ownsRow w1.heap.size 9 1 (.slice C (n1 + n3) c) (n1 + n3) (strV ps)) ∧ Below w1.heap.size w1 w') := Lib.hid (by
    intro w1 hb
    have hba : Below w.heap.size w (w1.alloc (.cells #[.slice A1 n1 c1, .slice A3 n3 c3] 24)) := hb.alloc hb.size _
    refine (cConcat w1.heap.size n1 n3 c1 c3 A1 A3 ls os _ hb1 hb3 (by simp) ?_ ?_ (H1.out.below hba) (H3.out.below hba)).mono ?_
    · rw [World.cell?_alloc_at _ _ _ _ rfl]; rfl
    · rw [World.cell?_alloc_at _ _ _ _ rfl]; rfl
    · rintro e w' ⟨⟨C, cc, rfl, hown⟩, hb4⟩
      rw [HPS.out]
      exact ⟨⟨C, cc, rfl, rowBase hown (by simp)⟩, ((Below.refl _ _).alloc (Nat.le_refl _) _).trans (hb4.mono (by simp))⟩)
  cases ha : alphaB xs
  · rw [ha] at CA
    have hcode : codeK xs ps ig n1 = 1 := by unfold codeK; rw [ha]; rfl
    rw [hcode]
    clear ha hcode
    go_enter Tryd.func42, Tryd.ntmps42
    go_wp2_with (first
      | (go_at_call 68; refine (show Calls Tryd.prog _ _ _ (fun e w' => e = .returned (.tuple #[.map none, .bool false]) ∧ _ ∧ Below w.heap.size w w') from CA.out).mono ?_; rintro e w1 ⟨rfl, _, hb1⟩)
      | (go_at_call 69; refine (CC.out _ hb1).mono ?_; rintro e w2 ⟨⟨C, cc, rfl, hown⟩, hb12⟩; have hb2 := hb1.trans (hb12.mono hb1.size)))
    go_ret2
    exact .inl ⟨by omega, rfl, hb2⟩
  rw [ha] at CA
  have hlx := alpha_len xs ha
  have hx40 : xs.length ≤ 40 := hlx.2
  have CI : Hid (∀ w1, Below w.heap.size w w1 → Calls Tryd.prog 71 #[.slice A2 n2 c2, .int .i64 n] w1 fun e w' => e = .returned (.bool (allW 0 ((xs.length : Int) - 1) ig)) ∧ w1 = w') := Lib.hid (by
    intro w1 hb
    have := tIndices A2 n2 c2 _ n ig w1 hb2 hbig (H2.out.below hb (Nat.le_refl _))
    rw [← HNX.out]; exact this)
  have CP : Hid (∀ (w1 : World) (C : Option Addr) (cc B : Nat), Below w.heap.size w w1 → w1.ownsRow B 9 1 (.slice C (n1 + n3) cc) (n1 + n3) (strV ps) → Calls Tryd.prog 70 #[.slice C (n1 + n3) cc] w1 fun e w' => e = .returned (.bool (phrasesB ps)) ∧ Below w1.heap.size w1 w') := Lib.hid (by
    intro w1 C cc B hb hown
    refine tArePh C (n1 + n3) cc ps w1 (by omega) (fun x hx => by have := HSZ.out x hx; omega) (shaped_below HSH.out hb) HPL.out ?_
    intro hp
    obtain ⟨g, cap, hv, _, hgl⟩ := World.ownsRow.form hown hp
    obtain ⟨rfl, rfl⟩ : C = some ⟨g, 0, none⟩ ∧ cc = cap := by injection hv with e1 e2 e3; exact ⟨e1, e3⟩
    refine ⟨g, 0, rfl, hgl, fun j x hx => ?_⟩
    rw [Nat.zero_add]
    exact (hown.cellAt j (by have := (List.getElem?_eq_some_iff.1 hx).1; have := HPL.out; omega)).trans (strV_at _ _ _ hx))
  cases hph : phrasesB ps
  · rw [hph] at CP
    have hcode : codeK xs ps ig n1 = 1 := by unfold codeK; rw [ha, hph]; rfl
    rw [hcode]
    clear ha hcode hph hlx
    go_enter Tryd.func42, Tryd.ntmps42
    go_wp2_with (first
      | (go_at_call 68; refine (show Calls Tryd.prog _ _ _ (fun e w' => e = .returned (.tuple #[.map (some w.heap.size), .bool true]) ∧ _ ∧ Below w.heap.size w w') from CA.out).mono ?_; rintro e w1 ⟨rfl, _, hb1⟩)
      | (go_at_call 69; refine (CC.out _ hb1).mono ?_; rintro e w2 ⟨⟨C, cc, rfl, hown⟩, hb12⟩; have hb2 := hb1.trans (hb12.mono hb1.size))
      | (go_at_call 70; refine (CP.out _ _ _ _ hb2 hown).mono ?_; rintro e w3 ⟨rfl, hb3⟩))
    go_ret2
    exact .inl ⟨by omega, rfl, hb2.trans (hb3.mono hb2.size)⟩
  rw [hph] at CP
  cases hal : allW 0 ((xs.length : Int) - 1) ig
  · rw [hal] at CI
    have hcode : codeK xs ps ig n1 = 2 := by unfold codeK; rw [ha, hph, hal]; rfl
    rw [hcode]
    clear ha hcode hph hlx hal
    go_enter Tryd.func42, Tryd.ntmps42
    go_wp2_with (first
      | (go_at_call 68; refine (show Calls Tryd.prog _ _ _ (fun e w' => e = .returned (.tuple #[.map (some w.heap.size), .bool true]) ∧ _ ∧ Below w.heap.size w w') from CA.out).mono ?_; rintro e w1 ⟨rfl, _, hb1⟩)
      | (go_at_call 69; refine (CC.out _ hb1).mono ?_; rintro e w2 ⟨⟨C, cc, rfl, hown⟩, hb12⟩; have hb2 := hb1.trans (hb12.mono hb1.size))
      | (go_at_call 70; refine (CP.out _ _ _ _ hb2 hown).mono ?_; rintro e w3 ⟨rfl, hb3⟩; have hb23 := hb2.trans (hb3.mono hb2.size))
      | (go_at_call 71; refine (CI.out _ hb23).mono ?_; rintro e w' ⟨rfl, rfl⟩))
    go_ret2
    exact .inl ⟨by omega, rfl, hb23⟩
  rw [hal] at CI
  have HPH := Lib.hid hph
  have hcode : codeK xs ps ig n1 = if ps.all (canP xs) then (if 20 < n1 then 3 else 0) else 4 := by unfold codeK; rw [ha, hph, hal]; rfl
  have HCODE := Lib.hid hcode
  clear hcode hph hal
  obtain ⟨N, hN⟩ : ∃ N, N = n1 + n3 := ⟨_, rfl⟩
  have hNb : N ≤ 2097152 := by omega
  rw [← hN] at CC CP HPL
  clear hN
  go_enter Tryd.func42, Tryd.ntmps42
  go_wp2_with (first
    | (go_at_call 68; refine (show Calls Tryd.prog _ _ _ (fun e w' => e = .returned (.tuple #[.map (some w.heap.size), .bool true]) ∧ (true = true → Dict w' w.heap.size xs) ∧ Below w.heap.size w w') from CA.out).mono ?_; rintro e w1 ⟨rfl, hD0, hb1⟩; have HD := Lib.hid (hD0 rfl); clear hD0)
    | (go_at_call 69; refine (CC.out _ hb1).mono ?_; rintro e w2 ⟨⟨C, cc, rfl, hown⟩, hb12⟩; have hb2 := hb1.trans (hb12.mono hb1.size))
    | (go_at_call 70; refine (CP.out _ _ _ _ hb2 hown).mono ?_; rintro e w3 ⟨rfl, hb3⟩; have hb23 := hb2.trans (hb3.mono hb2.size))
    | (go_at_call 71; refine (CI.out _ hb23).mono ?_; rintro e w' ⟨rfl, rfl⟩)
    | (at_make; refine wpList_make_full _ rfl _ _ 61 rfl w3.heap.size 67 i0 _ 1 Tryd.underlying61 hi0 hz0 hz1 _ _ _ _ N rfl rfl (by simp) (by simp) ?b2 ?b3 (Nat.le_refl _) ?_))
  case b2 => rw [hz2]; omega
  case b3 => unfold maxLen; omega
  intro w4 hown4 hgrow4
  rw [rowK_zero] at hown4
  have hb4 : Below w3.heap.size w3 w4 := (Below.refl _ _).grown hgrow4 (Nat.le_refl _) (fun k h => by cases h)
  have hg4 : w3.heap.size < w4.heap.size := (hown4.lt _ rfl).2
  have HROW : Hid (0 < N → ∃ gp, C = some ⟨gp, 0, none⟩ ∧ gp < w3.heap.size ∧ ∀ (j : Nat) x, ps[j]? = some x → w3.cell? ⟨gp, j, none⟩ = some (.string x)) := Lib.hid (fun hp => by
    obtain ⟨gp, cap, hv, _, hgl⟩ := World.ownsRow.form hown hp
    obtain ⟨rfl, rfl⟩ : C = some ⟨gp, 0, none⟩ ∧ cc = cap := by injection hv with e1 e2 e3; exact ⟨e1, e3⟩
    refine ⟨gp, rfl, Nat.lt_of_lt_of_le hgl hb3.size, fun j x hx => ?_⟩
    exact (hb3.cell (p := ⟨gp, j, none⟩) hgl).trans ((hown.cellAt j (by have := (List.getElem?_eq_some_iff.1 hx).1; have := HPL.out; omega)).trans (strV_at _ _ _ hx)))
  have HD3 : Hid (Dict w3 w.heap.size xs) := Lib.hid ((HD.out.below hb12).below hb3)
  have hg0 : w.heap.size ≤ w3.heap.size := hb23.size
  have hb14 := hb23
  clear hgrow4 hown hb12 hb3 hb2 HD CA CC CP CI
  go_wp2_with fail
  go_loopw [44] (fun i wr => ∃ (k : Nat) (vs : List Value), k ≤ N ∧ i = .int .i64 k ∧ Hid (vs.length = k) ∧ Hid ((ps.take k).all (canP xs) = true) ∧ Hid (KeysAt wr w3.heap.size vs ((ps.take k).map (keyP xs))) ∧ wr.ownsRow w3.heap.size 67 1 (.slice (some ⟨w3.heap.size, 0, none⟩) N N) N (rowK vs N k) ∧ w3.heap.size < wr.heap.size ∧ Below w3.heap.size w3 wr) (fun i _ => N - (intOf i).toNat)
  case atStart => exact ⟨0, [], Nat.zero_le _, rfl, Lib.hid rfl, Lib.hid rfl, Lib.hid (KeysAt.nil _ _), hown4, hg4, hb4⟩
  case round =>
    clear hown4 hb4 hg4
    obtain ⟨k, vs, hk, rfl, HVL, HA, HK, hown, hgl, hbw⟩ := hrel
    have hbw0 : Below w.heap.size w wr := hb14.trans (hbw.mono hg0)
    by_cases hlt : k < N
    · obtain ⟨gp, rfl, hgp, hcells⟩ := HROW.out (by omega)
      obtain ⟨x, hx⟩ : ∃ x, ps[k]? = some x := ⟨ps[k]'(by have := HPL.out; omega), List.getElem?_eq_getElem _⟩
      have hcx := (hbw.cell (p := ⟨gp, k, none⟩) (by exact hgp)).trans (hcells k x hx)
      have hmem := List.mem_of_getElem? hx
      have hpx := phrasesB_mem ps HPH.out x hmem
      have CK := Lib.hid (cKeyOf w.heap.size xs x wr (HSZ.out x hmem) hpx hx40 (HD3.out.below hbw) (shaped_below HSH.out hbw0))
      have HX := Lib.hid hx
      clear hx hcells
      cases hcp : canP xs x
      · have hall : ps.all (canP xs) = false := by rw [List.all_eq_false]; exact ⟨x, hmem, by simp [hcp]⟩
        have hc4 : codeK xs ps ig n1 = 4 := by rw [HCODE.out, hall]; rfl
        have HC4 := Lib.hid hc4
        have CK2 : Hid (Calls Tryd.prog 72 #[.map (some w.heap.size), .string x] wr fun e w' => e = .returned (.tuple #[.slice none 0 0, .bool false]) ∧ Below wr.heap.size wr w') := Lib.hid (CK.out.mono (by
          rintro e w' (⟨_, h1, h2⟩ | ⟨h1, _⟩)
          · exact ⟨h1, h2⟩
          · rw [hcp] at h1; cases h1))
        clear hall hc4 CK hcp hmem hpx
        go_wp2_with (go_at_call 72; refine CK2.out.mono ?_; rintro e w5 ⟨rfl, hb5⟩)
        go_ret2
        exact .inl ⟨by rw [HC4.out]; omega, by rw [HC4.out]; rfl, hbw0.trans (hb5.mono hbw0.size)⟩
      · have hpos := key_pos xs x hpx hcp
        have CK2 : Hid (Calls Tryd.prog 72 #[.map (some w.heap.size), .string x] wr fun e w' => ∃ v, e = .returned (.tuple #[v, .bool true]) ∧ w'.ownsRow wr.heap.size 2 1 v (keyP xs x).length (intV (keyP xs x)) ∧ Below wr.heap.size wr w') := Lib.hid (CK.out.mono (by
          rintro e w' (⟨h1, _⟩ | ⟨_, h1⟩)
          · rw [hcp] at h1; cases h1
          · exact h1))
        have hall : (ps.take (k + 1)).all (canP xs) = true := by
          have hl := (List.getElem?_eq_some_iff.1 HX.out).1
          have he : ps[k] = x := (List.getElem?_eq_some_iff.1 HX.out).2
          rw [List.take_succ_eq_append_getElem hl, he, List.all_append, HA.out]; simp [hcp]
        have HALL := Lib.hid hall
        have htk : (ps.take (k + 1)).map (keyP xs) = (ps.take k).map (keyP xs) ++ [keyP xs x] := by
          have hl := (List.getElem?_eq_some_iff.1 HX.out).1
          have he : ps[k] = x := (List.getElem?_eq_some_iff.1 HX.out).2
          rw [List.take_succ_eq_append_getElem hl, he, List.map_append]; rfl
        have HTK := Lib.hid htk
        have HPOS := Lib.hid hpos
        clear hall htk CK hcp hmem hpx hpos
        obtain ⟨K, hK⟩ : ∃ K, K = keyP xs x := ⟨_, rfl⟩
        rw [← hK] at CK2 HPOS HTK
        clear hK
        go_wp2_with fail
        refine CK2.out.mono ?_
        rintro e w5 ⟨v, rfl, hown5, hb5⟩
        have hrow := hown.kept (bgr hb5 none) (.inr (by simp [Value.ownBlock]))
        have hka := KeyAt.of (g := w3.heap.size) hown5 HPOS.out hgl
        obtain ⟨bk, ck, rfl, hbk1, hbk2⟩ := World.ownsRow.form hown5 HPOS.out
        have hks := ((HK.out.below hb5).snoc hka)
        rw [← HTK.out] at hks
        obtain ⟨v4, c4⟩ : ∃ v, w5.cell? ⟨w3.heap.size, k, none⟩ = some v := by
          have hl : k < (rowK vs N k).length := by have := hrow.1; omega
          exact ⟨_, (hrow.cellAt k (by omega)).trans (List.getElem?_eq_getElem hl)⟩
        have f4 := hrow.frozenAt k
        have hst := (hrow.stored k (.slice (some ⟨bk, 0, none⟩) K.length ck)).1
        rw [rowK_step vs N k _ HVL.out hlt] at hst
        have hks2 : Hid (KeysAt (w5.setCell ⟨w3.heap.size, k, none⟩ (.slice (some ⟨bk, 0, none⟩) K.length ck)) w3.heap.size (vs ++ [.slice (some ⟨bk, 0, none⟩) K.length ck]) ((ps.take (k + 1)).map (keyP xs))) := Lib.hid (hks.kept (by simp) (fun b hl hne => Below.heap_setCell _ _ _ b hne))
        have hbw1 : Below w3.heap.size w3 (w5.setCell ⟨w3.heap.size, k, none⟩ (.slice (some ⟨bk, 0, none⟩) K.length ck)) := (hbw.trans (hb5.mono (by omega))).setCell (Nat.le_refl _) _
        have hgl5 : w3.heap.size < w5.heap.size := Nat.lt_of_lt_of_le hgl hb5.size
        have e1 : (0 : Int) ≤ (k : Int) := Int.natCast_nonneg _
        have e2 : (k : Int) < (N : Int) := by omega
        clear hrow hown hks hown5 hka
        go_wp2_with fail
        go_roundw
        case rel => exact ⟨k + 1, _, by omega, by go_num, Lib.hid (by rw [List.length_append, HVL.out]; rfl), HALL, hks2, hst, by simpa using hgl5, hbw1⟩
        case measure => simp [intOf]; omega
    · obtain rfl : k = N := by omega
      have htk : ps.take k = ps := List.take_of_length_le (by have := HPL.out; omega)
      rw [htk] at HA HK
      rw [rowK_all] at hown
      have hc := HCODE.out
      rw [HA.out, if_pos rfl] at hc
      have HPN := HPL.out
      by_cases h20 : 20 < n1
      · rw [if_pos h20] at hc
        have HC3 := Lib.hid hc
        clear hc HPN
        go_wp2_with fail
        go_ret2
        exact .inl ⟨by rw [HC3.out]; omega, by rw [HC3.out]; rfl, hbw0⟩
      · rw [if_neg h20] at hc
        have HC0 := Lib.hid hc
        have HPN2 := Lib.hid HPN
        clear hc HPN
        go_wp2_with fail
        go_ret2
        refine .inr ⟨HC0.out, w3.heap.size, vs, ?_, ?_, hg0, hgl, HK.out, hbw0⟩
        · rw [← HPN2.out]; first | rfl | done
        · rw [← HPN2.out]; exact rowBase hown hg0
end Go.Proofs.YtjockiedganokaaDoor
