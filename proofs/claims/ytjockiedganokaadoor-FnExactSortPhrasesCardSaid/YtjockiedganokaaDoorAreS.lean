/-
  The contracts of impl.ComparePhrases and spec.ComparePhrases: both answer 'cpV xs s t ig'.
-/
import Derived.Test.YtjockiedganokaaDoorKeysOf
import Derived.Test.YtjockiedganokaaDoorOrderW
import Derived.Test.YtjockiedganokaaDoorOnceS
import Derived.Deep.RegionWith
import Derived.Test.YtjockiedganokaaDoorSl
import Derived.Shelf.SlCmpFuncs.None
namespace Go.Proofs.YtjockiedganokaaDoor
section
set_option linter.unusedVariables false
open Go.RowKit

def cpV (xs : List ByteArray) (s t : ByteArray) (ig : List Int) : Value := if codeK xs [s, t] ig 0 = 0 then .tuple #[.int .i64 (ordP xs ig s t), .int .i64 0] else .tuple #[.int .i64 0, .int .i64 (codeK xs [s, t] ig 0)]
theorem cpV_no (xs : List ByteArray) (s t : ByteArray) (ig : List Int) (h : codeK xs [s, t] ig 0 ≠ 0) : cpV xs s t ig = .tuple #[.int .i64 0, .int .i64 (codeK xs [s, t] ig 0)] := by unfold cpV; rw [if_neg h]
theorem cpV_yes (xs : List ByteArray) (s t : ByteArray) (ig : List Int) (h : codeK xs [s, t] ig 0 = 0) : cpV xs s t ig = .tuple #[.int .i64 (ordP xs ig s t), .int .i64 0] := by unfold cpV; rw [if_pos h]
theorem codeK_nl' (xs ps : List ByteArray) (ig : List Int) (a b : Nat) (ha : a ≤ 20) (hb : b ≤ 20) : codeK xs ps ig a = codeK xs ps ig b := by
  unfold codeK; rw [if_neg (by omega : ¬ 20 < a), if_neg (by omega : ¬ 20 < b)]
theorem keyP_50 (xs : List ByteArray) (s : ByteArray) (hx : xs.length ≤ 40) : ∀ n ∈ keyP xs s, 0 ≤ n ∧ n < 50 := by
  intro n hn
  rcases keysW_ok xs _ n hn with h | h <;> omega
theorem ig_40 {xs : List ByteArray} {ig : List Int} (h : allW 0 ((xs.length : Int) - 1) ig = true) (hx : xs.length ≤ 40) : ∀ x ∈ ig, 0 ≤ x ∧ x < 40 := fun x hm => by
  have := allW_mem h hm; omega
theorem two_src (w : World) (s t : ByteArray) : SrcT (w.alloc (.cells #[.string s, .string t] 9)) (some ⟨w.heap.size, 0, none⟩) 2 2 [s, t] := .inr ⟨w.heap.size, 0, rfl, by simp, rfl, fun j x hx => by
  match j, hx with
  | 0, hx => obtain rfl : s = x := by simpa using hx
             rw [World.cell?_alloc_at _ _ _ _ rfl]; rfl
  | 1, hx => obtain rfl : t = x := by simpa using hx
             rw [World.cell?_alloc_at _ _ _ _ rfl]; rfl⟩

set_option maxHeartbeats 1000000 in
theorem tCP_spec (A A2 : Option Addr) (n n2 c c2 : Nat) (xs : List ByteArray) (s t : ByteArray) (ig : List Int) (w : World) (hbig : n ≤ 1048576) (hs : ∀ x ∈ xs, x.size ≤ maxLen) (h : TextAt w w.heap.size A n xs) (hsz : s.size ≤ 1048576) (htz : t.size ≤ 1048576) (h2 : NumAt w w.heap.size A2 n2 ig) (hb2 : n2 ≤ maxLen) :
    Calls Tryd.prog 14 #[.slice A n c, .string s, .string t, .slice A2 n2 c2] w fun e w' => e = .returned (cpV xs s t ig) ∧ Below w.heap.size w w' := by
  have hba : Below w.heap.size w (w.alloc (.cells #[.string s, .string t] 9)) := (Below.refl _ _).alloc (Nat.le_refl _) _
  have HB := Lib.hid hba
  have CC := Lib.hid (cCode6 A (some ⟨w.heap.size, 0, none⟩) A2 n 2 n2 c 2 c2 xs [s, t] ig (w.alloc (.cells #[.string s, .string t] 9)) hbig hs ((h.below hba (Nat.le_refl _)).more hba.size) ((two_src w s t).at) (by omega) (by simp; omega) ((h2.below hba (Nat.le_refl _)).more hba.size) hb2)
  rw [codeK_nl' xs [s, t] ig 2 0 (by omega) (by omega)] at CC
  by_cases hcode : codeK xs [s, t] ig 0 = 0
  · have hz := codeK_zero hcode
    have HV := Lib.hid (cpV_yes xs s t ig hcode)
    have hph : phraseB s = true ∧ phraseB t = true := by have := hz.2.1; unfold phrasesB at this; simpa using this
    have hcp : canP xs s = true ∧ canP xs t = true := by have := hz.2.2.2.1; simpa using this
    have hd : (codeK xs [s, t] ig 0 != 0) = false := by simp [hcode]
    have hlx := (alpha_len xs hz.1).2
    have CO : Hid (∀ W, Below w.heap.size w W → Calls Tryd.prog 45 #[.slice A n c, .string s, .string t, .slice A2 n2 c2] W fun e w' => e = .returned (.int .i64 (ordP xs ig s t)) ∧ Below W.heap.size W w') := Lib.hid (fun W hW =>
      cComp6 A A2 n n2 c c2 xs s t ig W hz.1 ((h.below hW (Nat.le_refl _)).more hW.size) hsz htz hph.1 hph.2 hcp.1 hcp.2 ((h2.below hW (Nat.le_refl _)).more hW.size) hb2 (fun i hi => (ig_40 hz.2.2.1 hlx i hi).1))
    clear h h2 hs hz hph hcp hcode hba
    go_enter Tryd.func14, Tryd.ntmps14
    go_wp2_with fail
    refine CC.out.mono ?_
    rintro e w1 ⟨rfl, hb1⟩
    have hbw : Below w.heap.size w w1 := HB.out.trans (hb1.mono HB.out.size)
    go_wp2_with fail
    refine (CO.out _ hbw).mono ?_
    rintro e w3 ⟨rfl, hb3⟩
    go_wp2_with fail
    go_ret2
    exact ⟨by rw [HV.out]; rfl, hbw.trans (hb3.mono hbw.size)⟩
  · have hd : (codeK xs [s, t] ig 0 != 0) = true := by simp [hcode]
    have HV := Lib.hid (cpV_no xs s t ig hcode)
    clear h h2 hs hcode hba
    go_enter Tryd.func14, Tryd.ntmps14
    go_wp2_with fail
    refine CC.out.mono ?_
    rintro e w1 ⟨rfl, hb1⟩
    have hbw : Below w.heap.size w w1 := HB.out.trans (hb1.mono HB.out.size)
    go_wp2_with fail
    go_ret2
    exact ⟨by rw [HV.out]; rfl, hbw⟩

set_option maxHeartbeats 2000000 in
theorem tCP_impl (A A2 : Option Addr) (n n2 c c2 : Nat) (xs : List ByteArray) (s t : ByteArray) (ig : List Int) (w : World) (hbig : n ≤ 1048576) (hs : ∀ x ∈ xs, x.size ≤ maxLen) (h : TextAt w w.heap.size A n xs) (hsz : s.size ≤ 1048576) (htz : t.size ≤ 1048576) (h2 : NumAt w w.heap.size A2 n2 ig) (hb2 : n2 ≤ maxLen) (hsh : w.ShapedOpen Tryd.prog) :
    Calls Tryd.prog 13 #[.slice A n c, .string s, .string t, .slice A2 n2 c2] w fun e w' => e = .returned (cpV xs s t ig) ∧ Below w.heap.size w w' := by
  have hba : Below w.heap.size w (w.alloc (.cells #[.string s, .string t] 9)) := (Below.refl _ _).alloc (Nat.le_refl _) _
  have HB := Lib.hid hba
  have CK := Lib.hid (cKeysOf A none A2 (some ⟨w.heap.size, 0, none⟩) n 0 n2 2 c 0 c2 2 xs [] [s, t] ig (w.alloc (.cells #[.string s, .string t] 9)) hbig hs ((h.below hba (Nat.le_refl _)).more hba.size) (.inl ⟨rfl, rfl, rfl, rfl⟩) (by omega) (by simp) ((h2.below hba (Nat.le_refl _)).more hba.size) hb2 (two_src w s t) (by omega) (by simp; omega) (shaped_below hsh hba))
  rw [List.nil_append] at CK
  have H2 := Lib.hid h2
  clear h h2 hs hsh hba
  go_enter Tryd.func13, Tryd.ntmps13
  go_wp2_with fail
  refine CK.out.mono ?_
  rintro e w1 (⟨h1, rfl, hb1⟩ | ⟨h1, g, vs, rfl, hown, hg1, hg2, hks, hb1⟩)
  · have hbw : Below w.heap.size w w1 := HB.out.trans (hb1.mono HB.out.size)
    have hd : (codeK xs [s, t] ig 0 != 0) = true := by simp [h1]
    have HV := Lib.hid (cpV_no xs s t ig h1)
    clear h1 CK
    go_wp2_with fail
    go_ret2
    exact ⟨by rw [HV.out]; rfl, hbw⟩
  · have hbw : Below w.heap.size w w1 := HB.out.trans (hb1.mono HB.out.size)
    have hz := codeK_zero h1
    have HV := Lib.hid (cpV_yes xs s t ig h1)
    have hph : phraseB s = true ∧ phraseB t = true := by have := hz.2.1; unfold phrasesB at this; simpa using this
    have hcp : canP xs s = true ∧ canP xs t = true := by have := hz.2.2.2.1; simpa using this
    have hlx := (alpha_len xs hz.1).2
    have hvl : vs.length = 2 := by have := hks.1; simpa using this
    obtain ⟨v0, hv0⟩ : ∃ v0, vs[0]? = some v0 := ⟨vs[0]'(by omega), List.getElem?_eq_getElem _⟩
    obtain ⟨v1, hv1⟩ : ∃ v1, vs[1]? = some v1 := ⟨vs[1]'(by omega), List.getElem?_eq_getElem _⟩
    have hk0 := (hks.2 0 v0 (keyP xs s) hv0 rfl).has
    have hk1 := (hks.2 1 v1 (keyP xs t) hv1 rfl).has
    have HC0 : Hid (∀ W, Below w1.heap.size w1 W → W.cell? ⟨g, 0, none⟩ = some v0 ∧ W.cell? ⟨g, 1, none⟩ = some v1) := Lib.hid (fun W hW => ⟨(hW.cell (p := ⟨g, 0, none⟩) hg2).trans ((hown.cellAt 0 (by simp)).trans hv0), (hW.cell (p := ⟨g, 1, none⟩) hg2).trans ((hown.cellAt 1 (by simp)).trans hv1)⟩)
    have CW := Lib.hid (cOrderW A2 n2 c2 ig w1 hb2 (ig_40 hz.2.2.1 hlx) ((H2.out.below hbw (Nat.le_refl _)).more hbw.size))
    have CO : Hid (∀ (W : World) (gF gI : Nat), Below w1.heap.size w1 W → FnAt W gF gI → IgAt W gI ig → Calls Tryd.prog 77 #[v0, v1, .pointer (some ⟨gF, 0, none⟩)] W fun e w' => e = .returned (.int .i64 (ordP xs ig s t)) ∧ Below W.heap.size W w') := Lib.hid (fun W gF gI hW hF hI => by
      have hlow : ∀ {v k}, HasK w1 v k → HasK W v k := fun hk => by
        obtain ⟨b, c, e1, e2, e3⟩ := hk
        exact ⟨b, c, e1, Nat.lt_of_lt_of_le e2 hW.size, fun j x hx => (hW.cell (p := ⟨b, j, none⟩) e2).trans (e3 j x hx)⟩
      refine (cOrdK ig gF gI v0 v1 (keyP xs s) (keyP xs t) W (key_pos xs s hph.1 hcp.1) (key_pos xs t hph.2 hcp.2) (keyP_len xs s hph.1) (keyP_len xs t hph.2) (keyP_50 xs s hlx) (keyP_50 xs t hlx) (hlow hk0) (hlow hk1) hF hI).mono ?_
      rintro e w' ⟨he, hg⟩
      exact ⟨he, hg.below⟩)
    have hd : (codeK xs [s, t] ig 0 != 0) = false := by simp [h1]
    obtain ⟨N, hN⟩ : ∃ N, N = [s, t].length := ⟨_, rfl⟩
    have hN2 : N = 2 := hN
    clear h1 CK hz hph hcp hks hv0 hv1 hown hk0 hk1 hvl
    go_wp2_with fail
    refine CW.out.mono ?_
    rintro e w2 ⟨gF, gI, rfl, hF, hI, hgI, hgF, hb2⟩
    have c01 := HC0.out w2 hb2
    have c0 := c01.1
    have c1 := c01.2
    have HF := Lib.hid hF
    have HI := Lib.hid hI
    have HB2 := Lib.hid hb2
    clear hF hI c01 CW
    go_wp2_with fail
    go_region_with (go_at_call 77; refine (CO.out _ gF gI ?h1 ?h2 ?h3).mono ?_; (case h1 => first | exact HB2.out | exact HB2.out.drew); (case h2 => first | exact HF.out); (case h3 => first | exact HI.out); rintro e w3 ⟨rfl, hb3⟩)
    all_goals
      go_wp2_with fail
      go_ret2
      exact ⟨by rw [HV.out]; rfl, by first | exact (hbw.trans (HB2.out.mono hbw.size)).trans (hb3.mono (Nat.le_trans hbw.size HB2.out.size)) | exact (hbw.trans (HB2.out.mono hbw.size)).drew.trans (hb3.mono (Nat.le_trans hbw.size HB2.out.size))⟩
end
section
set_option linter.unusedVariables false
open Go.RowKit

set_option maxHeartbeats 1000000 in
theorem cSorted6 (A A1 A2 : Option Addr) (n n1 n2 c c1 c2 : Nat) (xs ls : List ByteArray) (ig : List Int) (w : World) (ha : alphaB xs = true) (h : TextAt w w.heap.size A n xs) (h1 : TextAt w w.heap.size A1 n1 ls) (hb1 : n1 ≤ 1048576) (hs1 : ∀ x ∈ ls, x.size ≤ 1048576) (hp : phrasesB ls = true) (hc : ls.all (canP xs) = true) (h2 : NumAt w w.heap.size A2 n2 ig) (hb2 : n2 ≤ maxLen) (hig : ∀ i ∈ ig, 0 ≤ i) :
    Calls Tryd.prog 56 #[.slice A n c, .slice A1 n1 c1, .slice A2 n2 c2] w fun e w' => e = .returned (.bool (adjB (ordP xs ig) ls)) ∧ Below w.heap.size w w' := by
  rw [List.all_eq_true] at hc
  have CO : Hid (∀ W s t, Below w.heap.size w W → s ∈ ls → t ∈ ls → Calls Tryd.prog 45 #[.slice A n c, .string s, .string t, .slice A2 n2 c2] W fun e w' => e = .returned (.int .i64 (ordP xs ig s t)) ∧ Below W.heap.size W w') := Lib.hid (fun W s t hW hs ht =>
    cComp6 A A2 n n2 c c2 xs s t ig W ha ((h.below hW (Nat.le_refl _)).more hW.size) (hs1 s hs) (hs1 t ht) (phrasesB_mem ls hp s hs) (phrasesB_mem ls hp t ht) (hc s hs) (hc t ht) ((h2.below hW (Nat.le_refl _)).more hW.size) hb2 hig)
  have HN := Lib.hid h1.1
  have H1 := Lib.hid h1
  clear h h1 h2 hs1 hp hc hig
  go_enter Tryd.func56, Tryd.ntmps56
  go_wp2_with fail
  go_loopw [7] (fun i wr => ∃ k : Nat, k ≤ n1 + 1 ∧ 1 ≤ k ∧ i = .int .i64 k ∧ Hid (adjB (ordP xs ig) (ls.take k) = true) ∧ Below w.heap.size w wr) (fun i _ => n1 + 1 - (intOf i).toNat)
  case atStart => exact ⟨1, by omega, Nat.le_refl _, rfl, Lib.hid (adj_zero _ _), Below.refl _ _⟩
  case round =>
    obtain ⟨k, hk, hk1, rfl, HA, hbw⟩ := hrel
    by_cases hlt : k < n1
    · obtain ⟨q, hq⟩ : ∃ q, k = q + 1 := ⟨k - 1, by omega⟩
      obtain ⟨x, hx⟩ : ∃ x, ls[q]? = some x := ⟨ls[q]'(by have := HN.out; omega), List.getElem?_eq_getElem _⟩
      obtain ⟨y, hy⟩ : ∃ y, ls[q + 1]? = some y := ⟨ls[q + 1]'(by have := HN.out; omega), List.getElem?_eq_getElem _⟩
      obtain ⟨b, o, rfl, hbb, hcx0⟩ := H1.out.row hx
      obtain ⟨b', o', he, hbb', hcy0⟩ := H1.out.row hy
      obtain ⟨rfl, rfl⟩ : b = b' ∧ o = o' := by injection he with e1; injection e1 with e1 e2; exact ⟨e1, e2⟩
      have hcx := (hbw.cell (by exact hbb)).trans hcx0
      have hcy := (hbw.cell (by exact hbb)).trans hcy0
      have CC := Lib.hid (fun W (hW : Below w.heap.size w W) => CO.out W x y hW (List.mem_of_getElem? hx) (List.mem_of_getElem? hy))
      have hst := fun h => adj_step (ordP xs ig) ls q x y hx hy h
      have hsp := adj_stop (ordP xs ig) ls q x y hx hy
      obtain ⟨r, hr⟩ : ∃ r, r = ordP xs ig x y := ⟨_, rfl⟩
      rw [← hr] at CC hst hsp
      rw [← hq] at hcy
      have HKQ := Lib.hid hq
      have s1 : IntKind.i64.wrap ((k : Int) - 1) = (q : Int) := by rw [IntKind.wrap_i64]; omega
      have u1 : (0 : Int) ≤ (q : Int) := Int.natCast_nonneg _
      have u2 : (q : Int) < (n1 : Int) := by omega
      have u4 : (k : Int) < (n1 : Int) := by omega
      have u5 : (0 : Int) ≤ (k : Int) := Int.natCast_nonneg _
      have hq2 : q + 2 = k + 1 := by omega
      rw [hq2] at hst
      clear hq hq2
      by_cases h0 : 0 < r
      · have HF := Lib.hid (hsp (by omega))
        clear hx hy hst hsp hr he hcx0 hcy0
        go_wp2_with fail
        go_region_with (go_at_call 45; refine (CC.out _ ?hb).mono ?_; (case hb => first | exact hbw | exact hbw.drew); rintro e w1 ⟨rfl, hb1⟩)
        all_goals
          go_wp2_with fail
          go_ret
          exact ⟨ret_bool HF.out.symm, by first | exact hbw.trans (hb1.mono hbw.size) | exact hbw.drew.trans (hb1.mono hbw.size)⟩
      · have HF := Lib.hid (hst (by rw [← HKQ.out]; exact HA.out) (by omega))
        clear hx hy hst hsp hr he hcx0 hcy0
        go_wp2_with fail
        go_region_with (go_at_call 45; refine (CC.out _ ?hb).mono ?_; (case hb => first | exact hbw | exact hbw.drew); rintro e w1 ⟨rfl, hb1⟩)
        all_goals
          have hbn : Below w.heap.size w w1 := by first | exact hbw.trans (hb1.mono hbw.size) | exact hbw.drew.trans (hb1.mono hbw.size)
          go_wp2_with fail
          go_roundw
          case rel => exact ⟨k + 1, by omega, by omega, by go_num, HF, hbn⟩
          case measure => simp [intOf]; omega
    · have hall := HA.out
      rw [List.take_of_length_le (by have := HN.out; omega)] at hall
      have HR := Lib.hid hall
      clear hall
      go_wp2_with fail
      go_ret
      exact ⟨ret_bool HR.out.symm, hbw⟩

def asV (xs ls : List ByteArray) (ig : List Int) : Value := if codeK xs ls ig ls.length = 0 then .tuple #[.bool (adjB (ordP xs ig) ls), .int .i64 0] else .tuple #[.bool false, .int .i64 (codeK xs ls ig ls.length)]
theorem asV_no (xs ls : List ByteArray) (ig : List Int) (h : codeK xs ls ig ls.length ≠ 0) : asV xs ls ig = .tuple #[.bool false, .int .i64 (codeK xs ls ig ls.length)] := by unfold asV; rw [if_neg h]
theorem asV_yes (xs ls : List ByteArray) (ig : List Int) (h : codeK xs ls ig ls.length = 0) : asV xs ls ig = .tuple #[.bool (adjB (ordP xs ig) ls), .int .i64 0] := by unfold asV; rw [if_pos h]

set_option maxHeartbeats 1000000 in
theorem tAS_spec (A A1 A2 : Option Addr) (n n1 n2 c c1 c2 : Nat) (xs ls : List ByteArray) (ig : List Int) (w : World) (hbig : n ≤ 1048576) (hs : ∀ x ∈ xs, x.size ≤ maxLen) (h : TextAt w w.heap.size A n xs) (h1 : TextAt w w.heap.size A1 n1 ls) (hb1 : n1 ≤ 1048576) (hs1 : ∀ x ∈ ls, x.size ≤ 1048576) (h2 : NumAt w w.heap.size A2 n2 ig) (hb2 : n2 ≤ maxLen) :
    Calls Tryd.prog 32 #[.slice A n c, .slice A1 n1 c1, .slice A2 n2 c2] w fun e w' => e = .returned (asV xs ls ig) ∧ Below w.heap.size w w' := by
  have CC := Lib.hid (cCode6 A A1 A2 n n1 n2 c c1 c2 xs ls ig w hbig hs h h1 (by omega) hs1 h2 hb2)
  have hcl : codeK xs ls ig n1 = codeK xs ls ig ls.length := by rw [h1.1]
  rw [hcl] at CC
  clear hcl
  by_cases hcode : codeK xs ls ig ls.length = 0
  · have hz := codeK_zero hcode
    have HV := Lib.hid (asV_yes xs ls ig hcode)
    have hd : (codeK xs ls ig ls.length != 0) = false := by simp [hcode]
    have hlx := (alpha_len xs hz.1).2
    have CO : Hid (∀ W, Below w.heap.size w W → Calls Tryd.prog 56 #[.slice A n c, .slice A1 n1 c1, .slice A2 n2 c2] W fun e w' => e = .returned (.bool (adjB (ordP xs ig) ls)) ∧ Below W.heap.size W w') := Lib.hid (fun W hW =>
      cSorted6 A A1 A2 n n1 n2 c c1 c2 xs ls ig W hz.1 ((h.below hW (Nat.le_refl _)).more hW.size) ((h1.below hW (Nat.le_refl _)).more hW.size) hb1 hs1 hz.2.1 hz.2.2.2.1 ((h2.below hW (Nat.le_refl _)).more hW.size) hb2 (fun i hi => (ig_40 hz.2.2.1 hlx i hi).1))
    clear h h1 h2 hs hs1 hz hcode
    go_enter Tryd.func32, Tryd.ntmps32
    go_wp2_with fail
    refine CC.out.mono ?_
    rintro e w1 ⟨rfl, hb1⟩
    go_wp2_with fail
    refine (CO.out _ hb1).mono ?_
    rintro e w3 ⟨rfl, hb3⟩
    go_wp2_with fail
    go_ret2
    exact ⟨by rw [HV.out]; rfl, hb1.trans (hb3.mono hb1.size)⟩
  · have hd : (codeK xs ls ig ls.length != 0) = true := by simp [hcode]
    have HV := Lib.hid (asV_no xs ls ig hcode)
    clear h h1 h2 hs hs1 hcode
    go_enter Tryd.func32, Tryd.ntmps32
    go_wp2_with fail
    refine CC.out.mono ?_
    rintro e w1 ⟨rfl, hb1⟩
    go_wp2_with fail
    go_ret2
    exact ⟨by rw [HV.out]; rfl, hb1⟩
end
section
set_option linter.unusedVariables false
open Go.RowKit Go.Shelf

/-- A key that lies in a block of its own in the world w, not in block g. -/
structure KV (w : World) (g : Nat) where
  v : Value
  k : List Int
  at_ : KeyAt w g v k
  pos : 0 < k.length
  len : k.length ≤ 136
  rng : ∀ x ∈ k, 0 ≤ x ∧ x < 50
def encK {w : World} {g : Nat} (x : KV w g) : Value := x.v
theorem oneK {w : World} {g : Nat} : OneCell (encK (w := w) (g := g)) := fun x => by
  obtain ⟨b, c, h, _⟩ := x.at_
  unfold encK; rw [h]; rfl
def cfK {w : World} {g : Nat} (ig : List Int) (x y : KV w g) : Int := ordK ig x.k y.k
theorem sortW_blk {α : Type} [Inhabited α] (enc : α → Value) (w : World) (blk off m : Nat) (dk : Array α) (os : Array Obj) (b : Nat) (hb : b < w.heap.size) (hne : b ≠ blk) : (sortWorld enc w blk off m dk os).heap[b]? = w.heap[b]? := by
  have hheap : (sortWorld enc w blk off m dk os).heap = (w.heap.modify blk (Sort.onCells (Sort.putCells enc off dk))) ++ os := rfl
  rw [hheap, Array.getElem?_append_left (by simpa using hb), Array.getElem?_modify, if_neg (fun e => hne e.symm)]
theorem sortW_size {α : Type} [Inhabited α] (enc : α → Value) (w : World) (blk off m : Nat) (dk : Array α) (os : Array Obj) : w.heap.size ≤ (sortWorld enc w blk off m dk os).heap.size := by
  have hheap : (sortWorld enc w blk off m dk os).heap = (w.heap.modify blk (Sort.onCells (Sort.putCells enc off dk))) ++ os := rfl
  rw [hheap]; simp
theorem sortW_below {α : Type} [Inhabited α] (enc : α → Value) {B : Nat} (w : World) (blk off m : Nat) (dk : Array α) (os : Array Obj) (hB : B ≤ blk) (hB2 : B ≤ w.heap.size) : Below B w (sortWorld enc w blk off m dk os) :=
  ⟨rfl, rfl, rfl, sortW_size enc w blk off m dk os, fun b hb => sortW_blk enc w blk off m dk os b (by omega) (by omega)⟩
theorem FnAt.other {w w' : World} {gF gI : Nat} (h : FnAt w gF gI) (hs : w.heap.size ≤ w'.heap.size) (hb : w'.heap[gF]? = w.heap[gF]?) : FnAt w' gF gI :=
  ⟨Nat.lt_of_lt_of_le h.1 hs, (cell_blk hb 0).trans h.2⟩
/-- The order as the library asks for it. -/
theorem cmpK_lays {w0 : World} (w : World) (g : Nat) [Inhabited (KV w0 g)] (ig : List Int) (gF gI size : Nat) (hw : Below w0.heap.size w0 w) (hF : FnAt w gF gI) (hI : IgAt w gI ig) (hgF : gF ≠ g) (hgI : gI ≠ g) :
    CmpLays1 Tryd.prog 77 #[.pointer (some ⟨gF, 0, none⟩)] (encK (w := w0) (g := g)) (cfK ig) g 0 size w := by
  intro m os dk hs x y
  have hk : ∀ x : KV w0 g, HasK (sortWorld encK w g 0 m dk os) x.v x.k := fun x => ((x.at_.below hw).kept (sortW_size _ _ _ _ _ _ _) (fun b hb hne => sortW_blk _ _ _ _ _ _ _ b hb hne)).has
  refine (cOrdK ig gF gI x.v y.v x.k y.k _ x.pos y.pos x.len y.len x.rng y.rng (hk x) (hk y) (hF.other (sortW_size _ _ _ _ _ _ _) (sortW_blk _ _ _ _ _ _ _ gF hF.1 hgF)) (hI.other (sortW_size _ _ _ _ _ _ _) (sortW_blk _ _ _ _ _ _ _ gI hI.1 hgI))).mono ?_
  rintro e w' ⟨he, q, os', hw'⟩
  exact ⟨he, q, os', hw'⟩
theorem cfK_swo {w : World} {g : Nat} (ig : List Int) : Sort.SWO (ltOf (cfK (w := w) (g := g) ig)) where
  irrefl x := by unfold ltOf cfK; rw [ordK_self]; rfl
  trans x y z h1 h2 := by
    unfold ltOf cfK at *
    rw [decide_eq_true_eq] at *
    have h3 := ordK_trans ig x.k y.k z.k (by omega) (by omega)
    rcases (show ordK ig x.k z.k < 0 ∨ ordK ig x.k z.k = 0 by omega) with h | h
    · exact h
    · have e := ordK_zero ig _ _ h
      rw [e] at h1
      have := ordK_neg ig z.k y.k
      omega
  ntrans x y z h1 h2 := by
    unfold ltOf cfK at *
    rw [decide_eq_false_iff_not] at *
    have e1 := ordK_neg ig x.k y.k
    have e2 := ordK_neg ig y.k z.k
    have h3 := ordK_trans ig z.k y.k x.k (by omega) (by omega)
    have e3 := ordK_neg ig x.k z.k
    omega
/-- The row of keys as an array of such elements. -/
theorem kv_row {w : World} {g : Nat} {vs : List Value} {ks : List (List Int)} (h : KeysAt w g vs ks) (hg : ∀ k ∈ ks, 0 < k.length ∧ k.length ≤ 136 ∧ ∀ x ∈ k, 0 ≤ x ∧ x < 50) :
    ∃ d : Array (KV w g), d.size = ks.length ∧ (∀ (j : Nat) x, d[j]? = some x → vs[j]? = some x.v ∧ ks[j]? = some x.k) := by
  have hl := h.1
  refine ⟨Array.ofFn (n := ks.length) fun j => ⟨vs[j.1]'(by have := j.2; omega), ks[j.1]'j.2, h.2 j.1 _ _ (List.getElem?_eq_getElem _) (List.getElem?_eq_getElem _), (hg _ (List.getElem_mem _)).1, (hg _ (List.getElem_mem _)).2.1, (hg _ (List.getElem_mem _)).2.2⟩, by simp, fun j x hx => ?_⟩
  obtain ⟨hj, he⟩ := Array.getElem?_eq_some_iff.1 hx
  have hj' : j < ks.length := by simpa using hj
  rw [Array.getElem_ofFn] at he
  subst he
  exact ⟨List.getElem?_eq_getElem _, List.getElem?_eq_getElem _⟩
theorem kv_map {w : World} {g : Nat} {vs : List Value} {ks : List (List Int)} {d : Array (KV w g)} (hs : d.size = ks.length) (h : ∀ (j : Nat) x, d[j]? = some x → vs[j]? = some x.v ∧ ks[j]? = some x.k) : d.toList.map (·.k) = ks := by
  apply List.ext_getElem?
  intro j
  rw [List.getElem?_map, Array.getElem?_toList]
  rcases Nat.lt_or_ge j d.size with h1 | h1
  · rw [Array.getElem?_eq_getElem h1, (h j _ (Array.getElem?_eq_getElem h1)).2]; rfl
  · rw [Array.getElem?_eq_none h1, List.getElem?_eq_none (by omega)]; rfl
theorem kv_holds {w w1 : World} {g B n c : Nat} [Inhabited (KV w g)] {vs : List Value} {ks : List (List Int)} {d : Array (KV w g)} (hs : d.size = n) (h : ∀ (j : Nat) x, d[j]? = some x → vs[j]? = some x.v ∧ ks[j]? = some x.k)
    (hown : w1.ownsRow B 67 1 (.slice (some ⟨g, 0, none⟩) n c) n vs) : Sort.Holds encK w1 g 0 d := fun j hj => by
  rw [Nat.zero_add]
  refine ⟨?_, hown.frozenAt j⟩
  rw [getElem!_pos d j hj, hown.cellAt j (by omega)]
  exact (h j _ (Array.getElem?_eq_getElem hj)).1
theorem keys_good {xs ps : List ByteArray} (hx : xs.length ≤ 40) (hp : phrasesB ps = true) (hc : ps.all (canP xs) = true) : ∀ k ∈ ps.map (keyP xs), 0 < k.length ∧ k.length ≤ 136 ∧ ∀ x ∈ k, 0 ≤ x ∧ x < 50 := fun k hk => by
  rw [List.mem_map] at hk
  obtain ⟨s, hs, rfl⟩ := hk
  rw [List.all_eq_true] at hc
  have h1 := phrasesB_mem ps hp s hs
  refine ⟨key_pos xs s h1 (hc s hs), keyP_len xs s h1, fun n hn => ?_⟩
  rcases keysW_ok xs _ n hn with h | h <;> omega
end
section
set_option linter.unusedVariables false
open Go.RowKit Go.Shelf

theorem sortW_same {α : Type} [Inhabited α] (enc : α → Value) (w : World) (g m : Nat) (d : Array α) (os : Array Obj) (h : Sort.Holds enc w g 0 d) : Below w.heap.size w (sortWorld enc w g 0 m d os) := by
  unfold sortWorld
  rw [Sort.putRow_self enc _ g 0 d (Sort.holds_ahead enc w m g 0 d h)]
  exact ⟨rfl, rfl, rfl, by show w.heap.size ≤ (w.heap ++ os).size; simp, fun k hk => by show (w.heap ++ os)[k]? = w.heap[k]?; rw [Array.getElem?_append_left hk]⟩
theorem kv_holds2 {w0 w : World} {g : Nat} [Inhabited (KV w0 g)] {vs : List Value} {ks : List (List Int)} {d : Array (KV w0 g)} (h : ∀ (j : Nat) x, d[j]? = some x → vs[j]? = some x.v ∧ ks[j]? = some x.k) (hg : g < w0.heap.size) (hw : Below w0.heap.size w0 w)
    (hown : ∀ (j : Nat) v, vs[j]? = some v → w0.cell? ⟨g, j, none⟩ = some v ∧ w0.frozen? ⟨g, j, none⟩ = false) : Sort.Holds encK w g 0 d := fun j hj => by
  rw [Nat.zero_add, getElem!_pos d j hj]
  have h1 := hown j _ (h j _ (Array.getElem?_eq_getElem hj)).1
  exact ⟨(hw.cell (p := ⟨g, j, none⟩) hg).trans h1.1, (hw.frozen (p := ⟨g, j, none⟩) hg).trans h1.2⟩
/-- slices.IsSortedFunc at a row of keys: it tells whether they are in order. -/
theorem cIsSortedK (xs ps : List ByteArray) (ig : List Int) (vs : List Value) (g gF gI cap : Nat) (w0 w : World) (hw : Below w0.heap.size w0 w) (hg : g < w0.heap.size)
    (hown : ∀ (j : Nat) v, vs[j]? = some v → w0.cell? ⟨g, j, none⟩ = some v ∧ w0.frozen? ⟨g, j, none⟩ = false) (hks : KeysAt w0 g vs (ps.map (keyP xs))) (hgood : ∀ k ∈ ps.map (keyP xs), 0 < k.length ∧ k.length ≤ 136 ∧ ∀ x ∈ k, 0 ≤ x ∧ x < 50) (hbig : ps.length ≤ 1048576)
    (hF : FnAt w gF gI) (hI : IgAt w gI ig) (hgF : w0.heap.size ≤ gF) (hgI : w0.heap.size ≤ gI) :
    Calls Tryd.prog 54 #[.slice (some ⟨g, 0, none⟩) ps.length cap, .func (.func 77) #[] #[.pointer (some ⟨gF, 0, none⟩)]] w
      fun e w' => e = .returned (.bool (adjB (ordP xs ig) ps)) ∧ Below w.heap.size w w' := by
  rcases Nat.eq_zero_or_pos ps.length with h0 | hpos
  · have hps : ps = [] := List.eq_nil_of_length_eq_zero h0
    subst hps
    have h := Any.slices_IsSortedFunc_none Tryd.isSortedK (some ⟨g, 0, none⟩) cap (.func (.func 77) #[] #[.pointer (some ⟨gF, 0, none⟩)]) w
    change Calls Tryd.prog 54 _ _ _ at h
    refine h.mono ?_
    rintro e w' ⟨rfl, rfl⟩
    exact ⟨rfl, Below.refl _ _⟩
  obtain ⟨d, hd, hdk⟩ := kv_row hks hgood
  rw [List.length_map] at hd
  have hd0 : 0 < d.size := by omega
  letI : Inhabited (KV w0 g) := ⟨d[0]⟩
  have hH : Sort.Holds encK w g 0 d := kv_holds2 hdk hg hw hown
  have h := Any.slices_IsSortedFunc Tryd.isSortedK encK oneK (cfK ig) 77 #[.pointer (some ⟨gF, 0, none⟩)] g 0 cap d w (enters_of Tryd.func77 (by kernel_rfl) rfl)
    (cmpK_lays w g ig gF gI d.size hw hF hI (by omega) (by omega)) hH (Nat.lt_of_lt_of_le hg hw.size) (by omega)
  rw [hd] at h
  change Calls Tryd.prog 54 _ _ _ at h
  refine h.mono ?_
  rintro e w' ⟨rfl, m, os, rfl⟩
  refine ⟨?_, sortW_same encK w g m d os hH⟩
  have hb : Lib.downOK (ltOf (cfK (w := w0) (g := g) ig)) d (ps.length - 1) = adjB (ordP xs ig) ps := by
    rw [Bool.eq_iff_iff, Lib.downOK_iff, adj_iff]
    have key : ∀ (i : Nat) s, ps[i]? = some s → ∃ x : KV w0 g, d[i]! = x ∧ x.k = keyP xs s := fun i s hs => by
      have hi : i < d.size := by have := (List.getElem?_eq_some_iff.1 hs).1; omega
      refine ⟨d[i], getElem!_pos d i hi, ?_⟩
      have h1 := (hdk i d[i] (Array.getElem?_eq_getElem hi)).2
      rw [List.getElem?_map, hs] at h1
      exact (Option.some.inj h1).symm
    constructor
    · intro hh i x y hx hy
      have hi : i < ps.length - 1 := by have := (List.getElem?_eq_some_iff.1 hy).1; omega
      have h1 := hh i hi
      obtain ⟨u, hu1, hu2⟩ := key i x hx
      obtain ⟨v, hv1, hv2⟩ := key (i + 1) y hy
      rw [hu1, hv1] at h1
      unfold ltOf cfK at h1
      rw [decide_eq_false_iff_not, hu2, hv2] at h1
      have := ordK_neg ig (keyP xs x) (keyP xs y)
      unfold ordP; omega
    · intro hh i hi
      have hx : ps[i]? = some (ps[i]'(by omega)) := List.getElem?_eq_getElem _
      have hy : ps[i + 1]? = some (ps[i + 1]'(by omega)) := List.getElem?_eq_getElem _
      have h1 := hh i _ _ hx hy
      obtain ⟨u, hu1, hu2⟩ := key i _ hx
      obtain ⟨v, hv1, hv2⟩ := key (i + 1) _ hy
      rw [hu1, hv1]
      unfold ltOf cfK
      rw [decide_eq_false_iff_not, hu2, hv2]
      have := ordK_neg ig (keyP xs ps[i]) (keyP xs ps[i + 1])
      unfold ordP at h1; omega
  rw [hb]

set_option maxHeartbeats 2000000 in
theorem tAS_impl (A A1 A2 : Option Addr) (n n1 n2 c c1 c2 : Nat) (xs ls : List ByteArray) (ig : List Int) (w : World) (hbig : n ≤ 1048576) (hs : ∀ x ∈ xs, x.size ≤ maxLen) (h : TextAt w w.heap.size A n xs) (h1 : SrcT w A1 n1 c1 ls) (hb1 : n1 ≤ 1048576) (hs1 : ∀ x ∈ ls, x.size ≤ 1048576) (h2 : NumAt w w.heap.size A2 n2 ig) (hb2 : n2 ≤ maxLen) (hsh : w.ShapedOpen Tryd.prog) :
    Calls Tryd.prog 21 #[.slice A n c, .slice A1 n1 c1, .slice A2 n2 c2] w fun e w' => e = .returned (asV xs ls ig) ∧ Below w.heap.size w w' := by
  have CK := Lib.hid (cKeysOf A A1 A2 none n n1 n2 0 c c1 c2 0 xs ls [] ig w hbig hs h h1 hb1 hs1 h2 hb2 (.inl ⟨rfl, rfl, rfl, rfl⟩) (by omega) (by simp) hsh)
  rw [List.append_nil] at CK
  have hcl : codeK xs ls ig n1 = codeK xs ls ig ls.length := by rw [h1.len]
  have hll : ls.length ≤ 1048576 := by rw [← h1.len]; exact hb1
  have H2 := Lib.hid h2
  have HCL := Lib.hid hcl
  clear h h1 h2 hs hsh hs1 hcl
  go_enter Tryd.func21, Tryd.ntmps21
  go_wp2_with fail
  refine CK.out.mono ?_
  rintro e w1 (⟨h1, rfl, hb1⟩ | ⟨h1, g, vs, rfl, hown, hg1, hg2, hks, hb1⟩)
  · have hd : (codeK xs ls ig n1 != 0) = true := by simp [h1]
    have HV := Lib.hid (asV_no xs ls ig (by rw [← HCL.out]; exact h1))
    rw [← HCL.out] at HV
    clear h1 CK
    go_wp2_with fail
    go_ret2
    exact ⟨by rw [HV.out]; rfl, hb1⟩
  · rw [HCL.out] at h1
    have hz := codeK_zero h1
    have HV := Lib.hid (asV_yes xs ls ig h1)
    have hlx := (alpha_len xs hz.1).2
    have CW := Lib.hid (cOrderW A2 n2 c2 ig w1 hb2 (ig_40 hz.2.2.1 hlx) ((H2.out.below hb1 (Nat.le_refl _)).more hb1.size))
    have CI : Hid (∀ W gF gI, Below w1.heap.size w1 W → FnAt W gF gI → IgAt W gI ig → w1.heap.size ≤ gF → w1.heap.size ≤ gI → Calls Tryd.prog 54 #[.slice (some ⟨g, 0, none⟩) ls.length ls.length, .func (.func 77) #[] #[.pointer (some ⟨gF, 0, none⟩)]] W
      fun e w' => e = .returned (.bool (adjB (ordP xs ig) ls)) ∧ Below W.heap.size W w') := Lib.hid (fun W gF gI hW hF hI hgF hgI =>
        cIsSortedK xs ls ig vs g gF gI ls.length w1 W hW hg2 (fun j v hv => ⟨(hown.cellAt j (by have := hown.1; have := (List.getElem?_eq_some_iff.1 hv).1; omega)).trans hv, hown.frozenAt j⟩) hks (keys_good hlx hz.2.1 hz.2.2.2.1) hll hF hI hgF hgI)
    clear h1 CK hz hks hown
    go_wp2_with fail
    refine CW.out.mono ?_
    rintro e w2 ⟨gF, gI, rfl, hF, hI, hgI, hgF, hb3⟩
    have CI2 := Lib.hid (CI.out w2 gF gI hb3 hF hI hgF hgI)
    clear hF hI CI CW
    go_wp2_with fail
    refine CI2.out.mono ?_
    rintro e w3 ⟨rfl, hb4⟩
    go_wp2_with fail
    go_ret2
    exact ⟨by rw [HV.out]; rfl, (hb1.trans (hb3.mono hb1.size)).trans (hb4.mono (Nat.le_trans hb1.size hb3.size))⟩
end
end Go.Proofs.YtjockiedganokaaDoor
