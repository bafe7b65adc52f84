/-
  The contracts of impl.ComparePhrases and spec.ComparePhrases: both answer 'cpV xs s t ig'.
-/
import Derived.Test.YtjockiedganokaaDoorKeysOf
import Derived.Test.YtjockiedganokaaDoorOrderW
import Derived.Test.YtjockiedganokaaDoorOnceS
namespace Go.Proofs.YtjockiedganokaaDoor
set_option linter.unusedVariables false
open Go.RowKit

def cpV (xs : List ByteArray) (s t : ByteArray) (ig : List Int) : Value := if codeK xs [s, t] ig 0 = 0 then .tuple #[.int .i64 (ordP xs ig s t), .int .i64 0] else .tuple #[.int .i64 0, .int .i64 (codeK xs [s, t] ig 0)]
theorem cpV_no (xs : List ByteArray) (s t : ByteArray) (ig : List Int) (h : codeK xs [s, t] ig 0 ≠ 0) : cpV xs s t ig = .tuple #[.int .i64 0, .int .i64 (codeK xs [s, t] ig 0)] := by unfold cpV; rw [if_neg h]
theorem cpV_yes (xs : List ByteArray) (s t : ByteArray) (ig : List Int) (h : codeK xs [s, t] ig 0 = 0) : cpV xs s t ig = .tuple #[.int .i64 (ordP xs ig s t), .int .i64 0] := by unfold cpV; rw [if_pos h]
theorem codeK_nl' (xs ps : List ByteArray) (ig : List Int) (a b : Nat) (ha : a ≤ 20) (hb : b ≤ 20) : codeK xs ps ig a = codeK xs ps ig b := by
  unfold codeK; rw [if_neg (by omega : ¬ 20 < a), if_neg (by omega : ¬ 20 < b)]
theorem keyP_50 (xs : List ByteArray) (s : ByteArray) (hx : xs.length ≤ 40) : ∀ n ∈ keyP xs s, 0 ≤ n ∧ n < 50 := by
  intro n hn
  rcases keysW_ok xs _ n hn with h | h <;> omega
theorem ig_40 {xs : List ByteArray} {ig : List Int} (h : allW 0 ((xs.length : Int) - 1) ig = true) (hx : xs.length ≤ 40) : ∀ x ∈ ig, 0 ≤ x ∧ x < 40 := fun x hm => by
  have := allW_mem h hm; omega
theorem two_src (w : World) (s t : ByteArray) : SrcT (w.alloc (.cells #[.string s, .string t] 9)) (some ⟨w.heap.size, 0, none⟩) 2 2 [s, t] := .inr ⟨w.heap.size, 0, rfl, by simp, rfl, fun j x hx => by
  match j, hx with
  | 0, hx => obtain rfl : s = x := by simpa using hx
             rw [World.cell?_alloc_at _ _ _ _ rfl]; rfl
  | 1, hx => obtain rfl : t = x := by simpa using hx
             rw [World.cell?_alloc_at _ _ _ _ rfl]; rfl⟩

set_option maxHeartbeats 1000000 in
theorem tCP_spec (A A2 : Option Addr) (n n2 c c2 : Nat) (xs : List ByteArray) (s t : ByteArray) (ig : List Int) (w : World) (hbig : n ≤ 1048576) (hs : ∀ x ∈ xs, x.size ≤ maxLen) (h : TextAt w w.heap.size A n xs) (hsz : s.size ≤ 1048576) (htz : t.size ≤ 1048576) (h2 : NumAt w w.heap.size A2 n2 ig) (hb2 : n2 ≤ maxLen) :
    Calls Tryd.prog 14 #[.slice A n c, .string s, .string t, .slice A2 n2 c2] w fun e w' => e = .returned (cpV xs s t ig) ∧ Below w.heap.size w w' := by
  have hba : Below w.heap.size w (w.alloc (.cells #[.string s, .string t] 9)) := (Below.refl _ _).alloc (Nat.le_refl _) _
  have HB := Lib.hid hba
  have CC := Lib.hid (cCode6 A (some ⟨w.heap.size, 0, none⟩) A2 n 2 n2 c 2 c2 xs [s, t] ig (w.alloc (.cells #[.string s, .string t] 9)) hbig hs ((h.below hba (Nat.le_refl _)).more hba.size) ((two_src w s t).at) (by omega) (by simp; omega) ((h2.below hba (Nat.le_refl _)).more hba.size) hb2)
  rw [codeK_nl' xs [s, t] ig 2 0 (by omega) (by omega)] at CC
  by_cases hcode : codeK xs [s, t] ig 0 = 0
  · have hz := codeK_zero hcode
    have HV := Lib.hid (cpV_yes xs s t ig hcode)
    have hph : phraseB s = true ∧ phraseB t = true := by have := hz.2.1; unfold phrasesB at this; simpa using this
    have hcp : canP xs s = true ∧ canP xs t = true := by have := hz.2.2.2.1; simpa using this
    have hd : (codeK xs [s, t] ig 0 != 0) = false := by simp [hcode]
    have hlx := (alpha_len xs hz.1).2
    have CO : Hid (∀ W, Below w.heap.size w W → Calls Tryd.prog 45 #[.slice A n c, .string s, .string t, .slice A2 n2 c2] W fun e w' => e = .returned (.int .i64 (ordP xs ig s t)) ∧ Below W.heap.size W w') := Lib.hid (fun W hW =>
      cComp6 A A2 n n2 c c2 xs s t ig W hz.1 ((h.below hW (Nat.le_refl _)).more hW.size) hsz htz hph.1 hph.2 hcp.1 hcp.2 ((h2.below hW (Nat.le_refl _)).more hW.size) hb2 (fun i hi => (ig_40 hz.2.2.1 hlx i hi).1))
    clear h h2 hs hz hph hcp hcode hba
    go_enter Tryd.func14, Tryd.ntmps14
    go_wp2_with fail
    refine CC.out.mono ?_
    rintro e w1 ⟨rfl, hb1⟩
    have hbw : Below w.heap.size w w1 := HB.out.trans (hb1.mono HB.out.size)
    go_wp2_with fail
    refine (CO.out _ hbw).mono ?_
    rintro e w3 ⟨rfl, hb3⟩
    go_wp2_with fail
    go_ret2
    exact ⟨by rw [HV.out]; rfl, hbw.trans (hb3.mono hbw.size)⟩
  · have hd : (codeK xs [s, t] ig 0 != 0) = true := by simp [hcode]
    have HV := Lib.hid (cpV_no xs s t ig hcode)
    clear h h2 hs hcode hba
    go_enter Tryd.func14, Tryd.ntmps14
    go_wp2_with fail
    refine CC.out.mono ?_
    rintro e w1 ⟨rfl, hb1⟩
    have hbw : Below w.heap.size w w1 := HB.out.trans (hb1.mono HB.out.size)
    go_wp2_with fail
    go_ret2
    exact ⟨by rw [HV.out]; rfl, hbw⟩

set_option maxHeartbeats 2000000 in
theorem tCP_impl (A A2 : Option Addr) (n n2 c c2 : Nat) (xs : List ByteArray) (s t : ByteArray) (ig : List Int) (w : World) (hbig : n ≤ 1048576) (hs : ∀ x ∈ xs, x.size ≤ maxLen) (h : TextAt w w.heap.size A n xs) (hsz : s.size ≤ 1048576) (htz : t.size ≤ 1048576) (h2 : NumAt w w.heap.size A2 n2 ig) (hb2 : n2 ≤ maxLen) (hsh : w.ShapedOpen Tryd.prog) :
    Calls Tryd.prog 13 #[.slice A n c, .string s, .string t, .slice A2 n2 c2] w fun e w' => e = .returned (cpV xs s t ig) ∧ Below w.heap.size w w' := by
  have hba : Below w.heap.size w (w.alloc (.cells #[.string s, .string t] 9)) := (Below.refl _ _).alloc (Nat.le_refl _) _
  have HB := Lib.hid hba
  have CK := Lib.hid (cKeysOf A none A2 (some ⟨w.heap.size, 0, none⟩) n 0 n2 2 c 0 c2 2 xs [] [s, t] ig (w.alloc (.cells #[.string s, .string t] 9)) hbig hs ((h.below hba (Nat.le_refl _)).more hba.size) (.inl ⟨rfl, rfl, rfl, rfl⟩) (by omega) (by simp) ((h2.below hba (Nat.le_refl _)).more hba.size) hb2 (two_src w s t) (by omega) (by simp; omega) (shaped_below hsh hba))
  rw [List.nil_append] at CK
  have H2 := Lib.hid h2
  clear h h2 hs hsh hba
  go_enter Tryd.func13, Tryd.ntmps13
  go_wp2_with fail
  refine CK.out.mono ?_
  rintro e w1 (⟨h1, rfl, hb1⟩ | ⟨h1, g, vs, rfl, hown, hg1, hg2, hks, hb1⟩)
  · have hbw : Below w.heap.size w w1 := HB.out.trans (hb1.mono HB.out.size)
    have hd : (codeK xs [s, t] ig 0 != 0) = true := by simp [h1]
    have HV := Lib.hid (cpV_no xs s t ig h1)
    clear h1 CK
    go_wp2_with fail
    go_ret2
    exact ⟨by rw [HV.out]; rfl, hbw⟩
  · have hbw : Below w.heap.size w w1 := HB.out.trans (hb1.mono HB.out.size)
    have hz := codeK_zero h1
    have HV := Lib.hid (cpV_yes xs s t ig h1)
    have hph : phraseB s = true ∧ phraseB t = true := by have := hz.2.1; unfold phrasesB at this; simpa using this
    have hcp : canP xs s = true ∧ canP xs t = true := by have := hz.2.2.2.1; simpa using this
    have hlx := (alpha_len xs hz.1).2
    have hvl : vs.length = 2 := by have := hks.1; simpa using this
    obtain ⟨v0, hv0⟩ : ∃ v0, vs[0]? = some v0 := ⟨vs[0]'(by omega), List.getElem?_eq_getElem _⟩
    obtain ⟨v1, hv1⟩ : ∃ v1, vs[1]? = some v1 := ⟨vs[1]'(by omega), List.getElem?_eq_getElem _⟩
    have hk0 := (hks.2 0 v0 (keyP xs s) hv0 rfl).has
    have hk1 := (hks.2 1 v1 (keyP xs t) hv1 rfl).has
    have HC0 : Hid (∀ W, Below w1.heap.size w1 W → W.cell? ⟨g, 0, none⟩ = some v0 ∧ W.cell? ⟨g, 1, none⟩ = some v1) := Lib.hid (fun W hW => ⟨(hW.cell (p := ⟨g, 0, none⟩) hg2).trans ((hown.cellAt 0 (by simp)).trans hv0), (hW.cell (p := ⟨g, 1, none⟩) hg2).trans ((hown.cellAt 1 (by simp)).trans hv1)⟩)
    have CW := Lib.hid (cOrderW A2 n2 c2 ig w1 hb2 (ig_40 hz.2.2.1 hlx) ((H2.out.below hbw (Nat.le_refl _)).more hbw.size))
    have CO : Hid (∀ (W : World) (gF gI : Nat), Below w1.heap.size w1 W → FnAt W gF gI → IgAt W gI ig → Calls Tryd.prog 77 #[v0, v1, .pointer (some ⟨gF, 0, none⟩)] W fun e w' => e = .returned (.int .i64 (ordP xs ig s t)) ∧ Below W.heap.size W w') := Lib.hid (fun W gF gI hW hF hI => by
      have hlow : ∀ {v k}, HasK w1 v k → HasK W v k := fun hk => by
        obtain ⟨b, c, e1, e2, e3⟩ := hk
        exact ⟨b, c, e1, Nat.lt_of_lt_of_le e2 hW.size, fun j x hx => (hW.cell (p := ⟨b, j, none⟩) e2).trans (e3 j x hx)⟩
      refine (cOrdK ig gF gI v0 v1 (keyP xs s) (keyP xs t) W (key_pos xs s hph.1 hcp.1) (key_pos xs t hph.2 hcp.2) (keyP_len xs s hph.1) (keyP_len xs t hph.2) (keyP_50 xs s hlx) (keyP_50 xs t hlx) (hlow hk0) (hlow hk1) hF hI).mono ?_
      rintro e w' ⟨he, hg⟩
      exact ⟨he, hg.below⟩)
    have hd : (codeK xs [s, t] ig 0 != 0) = false := by simp [h1]
    obtain ⟨N, hN⟩ : ∃ N, N = [s, t].length := ⟨_, rfl⟩
    have hN2 : N = 2 := hN
    clear h1 CK hz hph hcp hks hv0 hv1 hown hk0 hk1 hvl
    go_wp2_with fail
    refine CW.out.mono ?_
    rintro e w2 ⟨gF, gI, rfl, hF, hI, hgI, hgF, hb2⟩
    have c01 := HC0.out w2 hb2
    have c0 := c01.1
    have c1 := c01.2
    have HF := Lib.hid hF
    have HI := Lib.hid hI
    have HB2 := Lib.hid hb2
    clear hF hI c01 CW
    go_wp2_with fail
    go_region_with (go_at_call 77; refine (CO.out _ gF gI ?h1 ?h2 ?h3).mono ?_; (case h1 => first | exact HB2.out | exact HB2.out.drew); (case h2 => first | exact HF.out); (case h3 => first | exact HI.out); rintro e w3 ⟨rfl, hb3⟩)
    all_goals
      go_wp2_with fail
      go_ret2
      exact ⟨by rw [HV.out]; rfl, by first | exact (hbw.trans (HB2.out.mono hbw.size)).trans (hb3.mono (Nat.le_trans hbw.size HB2.out.size)) | exact (hbw.trans (HB2.out.mono hbw.size)).drew.trans (hb3.mono (Nat.le_trans hbw.size HB2.out.size))⟩
end Go.Proofs.YtjockiedganokaaDoor
