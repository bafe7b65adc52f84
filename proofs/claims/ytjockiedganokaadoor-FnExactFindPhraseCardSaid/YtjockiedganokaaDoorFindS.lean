/-
  The contract of impl.FindPhrase.
-/
import Derived.Test.YtjockiedganokaaDoorAreS
import Derived.Deep.QuietTactic
namespace Go.Proofs.YtjockiedganokaaDoor
section
set_option linter.unusedVariables false
open Go.RowKit Go.Shelf

def fpV (xs ls : List ByteArray) (s : ByteArray) : Value :=
  if codeK xs (ls ++ [s]) [] ls.length = 0 then (if adjB (ordP xs []) ls then .tuple #[.int .i64 (cntB (ordP xs []) ls s : Nat), .int .i64 0] else .tuple #[.int .i64 0, .int .i64 5]) else .tuple #[.int .i64 0, .int .i64 (codeK xs (ls ++ [s]) [] ls.length)]
theorem fpV_no (xs ls : List ByteArray) (s : ByteArray) (h : codeK xs (ls ++ [s]) [] ls.length ≠ 0) : fpV xs ls s = .tuple #[.int .i64 0, .int .i64 (codeK xs (ls ++ [s]) [] ls.length)] := by unfold fpV; rw [if_neg h]
theorem fpV_state (xs ls : List ByteArray) (s : ByteArray) (h : codeK xs (ls ++ [s]) [] ls.length = 0) (h2 : adjB (ordP xs []) ls = false) : fpV xs ls s = .tuple #[.int .i64 0, .int .i64 5] := by unfold fpV; rw [if_pos h, h2]; rfl
theorem fpV_yes (xs ls : List ByteArray) (s : ByteArray) (h : codeK xs (ls ++ [s]) [] ls.length = 0) (h2 : adjB (ordP xs []) ls = true) : fpV xs ls s = .tuple #[.int .i64 (cntB (ordP xs []) ls s : Nat), .int .i64 0] := by unfold fpV; rw [if_pos h, h2]; rfl

theorem cSearchK (xs ps : List ByteArray) (s : ByteArray) (vs : List Value) (g gF gI cap : Nat) (tv : Value) (w0 w : World) (hw : Below w0.heap.size w0 w) (hg : g < w0.heap.size)
    (hown : ∀ (j : Nat) v, vs[j]? = some v → w0.cell? ⟨g, j, none⟩ = some v ∧ w0.frozen? ⟨g, j, none⟩ = false) (hks : KeysAt w0 g vs (ps.map (keyP xs))) (hgood : ∀ k ∈ ps.map (keyP xs), 0 < k.length ∧ k.length ≤ 136 ∧ ∀ x ∈ k, 0 ≤ x ∧ x < 50) (hbig : ps.length ≤ 1048576)
    (htv : KeyAt w0 g tv (keyP xs s)) (htg : 0 < (keyP xs s).length ∧ (keyP xs s).length ≤ 136 ∧ ∀ x ∈ keyP xs s, 0 ≤ x ∧ x < 50) (hsorted : adjB (ordP xs []) ps = true)
    (hF : FnAt w gF gI) (hI : IgAt w gI []) (hgF : w0.heap.size ≤ gF) (hgI : w0.heap.size ≤ gI) :
    Calls Tryd.prog 55 #[.slice (some ⟨g, 0, none⟩) ps.length cap, tv, .func (.func 77) #[] #[.pointer (some ⟨gF, 0, none⟩)]] w
      fun e w' => (∃ b : Bool, e = .returned (.tuple #[.int .i64 (cntB (ordP xs []) ps s : Nat), .bool b])) ∧ Below w.heap.size w w' := by
  rcases Nat.eq_zero_or_pos ps.length with h0 | hpos
  · have hps : ps = [] := List.eq_nil_of_length_eq_zero h0
    subst hps
    have h := Any.slices_BinarySearchFunc_none Tryd.searchK (some ⟨g, 0, none⟩) cap tv (.func (.func 77) #[] #[.pointer (some ⟨gF, 0, none⟩)]) w
    change Calls Tryd.prog 55 _ _ _ at h
    refine h.mono ?_
    rintro e w' ⟨rfl, rfl⟩
    exact ⟨⟨false, rfl⟩, Below.refl _ _⟩
  obtain ⟨d, hd, hdk⟩ := kv_row hks hgood
  have hmap := kv_map hd hdk
  rw [List.length_map] at hd
  have hd0 : 0 < d.size := by omega
  letI : Inhabited (KV w0 g) := ⟨d[0]⟩
  have hH : Sort.Holds encK w g 0 d := kv_holds2 hdk hg hw hown
  have hsrt := adj_srt (ordP xs []) (fun a b c h1 h2 => ordK_trans [] _ _ _ h1 h2) ps hsorted
  have key : ∀ (i : Nat) s, ps[i]? = some s → ∃ x : KV w0 g, d[i]! = x ∧ x.k = keyP xs s := fun i s hs => by
    have hi : i < d.size := by have := (List.getElem?_eq_some_iff.1 hs).1; omega
    refine ⟨d[i], getElem!_pos d i hi, ?_⟩
    have h1 := (hdk i d[i] (Array.getElem?_eq_getElem hi)).2
    rw [List.getElem?_map, hs] at h1
    exact (Option.some.inj h1).symm
  have h := Any.slices_BinarySearchFunc Tryd.searchK encK oneK tv (fun x : KV w0 g => ordK [] x.k (keyP xs s)) 77 #[.pointer (some ⟨gF, 0, none⟩)] g 0 cap d w (enters_of Tryd.func77 (by kernel_rfl) rfl)
    (fun m os dk hs x => by
      have hx : HasK (sortWorld encK w g 0 m dk os) x.v x.k := ((x.at_.below hw).kept (sortW_size _ _ _ _ _ _ _) (fun b hb hne => sortW_blk _ _ _ _ _ _ _ b hb hne)).has
      have ht : HasK (sortWorld encK w g 0 m dk os) tv (keyP xs s) := ((htv.below hw).kept (sortW_size _ _ _ _ _ _ _) (fun b hb hne => sortW_blk _ _ _ _ _ _ _ b hb hne)).has
      refine (cOrdK [] gF gI x.v tv x.k (keyP xs s) _ x.pos htg.1 x.len htg.2.1 x.rng htg.2.2 hx ht (hF.other (sortW_size _ _ _ _ _ _ _) (sortW_blk _ _ _ _ _ _ _ gF hF.1 (by omega))) (hI.other (sortW_size _ _ _ _ _ _ _) (sortW_blk _ _ _ _ _ _ _ gI hI.1 (by omega)))).mono ?_
      rintro e w' ⟨he, q, os', hw'⟩
      exact ⟨he, q, os', hw'⟩) hH (Nat.lt_of_lt_of_le hg hw.size) (by omega)
    (fun a b hab hb hlt => by
      have hx : ps[a]? = some (ps[a]'(by omega)) := List.getElem?_eq_getElem _
      have hy : ps[b]? = some (ps[b]'(by omega)) := List.getElem?_eq_getElem _
      obtain ⟨u, hu1, hu2⟩ := key a _ hx
      obtain ⟨v, hv1, hv2⟩ := key b _ hy
      rw [hv1, hv2] at hlt
      rw [hu1, hu2]
      rcases Nat.lt_or_ge a b with h1 | h1
      · have h2 := List.pairwise_iff_getElem.1 hsrt a b (by omega) (by omega) h1
        have h3 : ordK [] (keyP xs ps[a]) (keyP xs ps[b]) ≤ 0 := h2
        have h4 := ordK_trans [] _ _ _ h3 (by omega : ordK [] (keyP xs ps[b]) (keyP xs s) ≤ 0)
        rcases (show ordK [] (keyP xs ps[a]) (keyP xs s) < 0 ∨ ordK [] (keyP xs ps[a]) (keyP xs s) = 0 by omega) with h5 | h5
        · exact h5
        · have e := ordK_zero [] _ _ h5
          rw [e] at h3
          have := ordK_neg [] (keyP xs s) (keyP xs ps[b])
          omega
      · have : a = b := by omega
        subst this
        exact hlt)
  rw [hd] at h
  change Calls Tryd.prog 55 _ _ _ at h
  refine h.mono ?_
  rintro e w' ⟨rfl, m, os, rfl⟩
  have hcnt : d.toList.countP (fun x => decide (ordK [] x.k (keyP xs s) < 0)) = cntB (ordP xs []) ps s := by
    unfold cntB ordP
    have h1 : d.toList.countP (fun x => decide (ordK [] x.k (keyP xs s) < 0)) = (d.toList.map (·.k)).countP (fun k => decide (ordK [] k (keyP xs s) < 0)) := by rw [List.countP_map]; rfl
    rw [h1, hmap, List.countP_map]; rfl
  rw [hcnt]
  exact ⟨⟨_, rfl⟩, sortW_same encK w g m d os hH⟩

set_option maxHeartbeats 2000000 in
theorem tFP_impl (A A1 : Option Addr) (n n1 c c1 : Nat) (xs ls : List ByteArray) (s : ByteArray) (w : World) (hbig : n ≤ 1048576) (hs : ∀ x ∈ xs, x.size ≤ maxLen) (h : TextAt w w.heap.size A n xs) (h1 : SrcT w A1 n1 c1 ls) (hb1 : n1 ≤ 1048576) (hs1 : ∀ x ∈ ls, x.size ≤ 1048576) (hsz : s.size ≤ 1048576) (hsh : w.ShapedOpen Tryd.prog) :
    Calls Tryd.prog 19 #[.slice A n c, .slice A1 n1 c1, .string s] w fun e w' => e = .returned (fpV xs ls s) ∧ Below w.heap.size w w' := by
  have ho : SrcT (w.alloc (.cells #[.string s] 9)) (some ⟨w.heap.size, 0, none⟩) 1 1 [s] := .inr ⟨w.heap.size, 0, rfl, by simp, rfl, fun j x hx => by
    match j, hx with
    | 0, hx => obtain rfl : s = x := by simpa using hx
               rw [World.cell?_alloc_at _ _ _ _ rfl]; rfl⟩
  have hba : Below w.heap.size w (w.alloc (.cells #[.string s] 9)) := (Below.refl _ _).alloc (Nat.le_refl _) _
  have CK := Lib.hid (cKeysOf A A1 none (some ⟨w.heap.size, 0, none⟩) n n1 0 1 c c1 0 1 xs ls [s] [] (w.alloc (.cells #[.string s] 9)) hbig hs ((h.below hba (Nat.le_refl _)).more hba.size) (h1.below hba) hb1 hs1 ⟨rfl, fun h => absurd h (by omega)⟩ (by unfold maxLen; omega) ho (by omega) (by simp; omega) (shaped_below hsh hba))
  have hcl : codeK xs (ls ++ [s]) [] n1 = codeK xs (ls ++ [s]) [] ls.length := by rw [h1.len]
  have hll : n1 = ls.length := h1.len
  have hN : (ls ++ [s]).length = n1 + 1 := by rw [List.length_append, hll]; rfl
  have HB := Lib.hid hba
  have HCL := Lib.hid hcl
  have HLL := Lib.hid hll
  have HNN := Lib.hid hN
  clear h h1 hs hsh hs1 hcl ho hba hll hN
  go_enter Tryd.func19, Tryd.ntmps19
  go_wp2_with fail
  refine CK.out.mono ?_
  rintro e w1 (⟨h1, rfl, hb1⟩ | ⟨h1, g, vs, rfl, hown, hg1, hg2, hks, hb1⟩)
  · have hbw : Below w.heap.size w w1 := HB.out.trans (hb1.mono HB.out.size)
    have hd : (codeK xs (ls ++ [s]) [] n1 != 0) = true := by simp [h1]
    have HV := Lib.hid (fpV_no xs ls s (by rw [← HCL.out]; exact h1))
    rw [← HCL.out] at HV
    clear h1 CK
    go_wp2_with fail
    go_ret2
    exact ⟨by rw [HV.out]; rfl, hbw⟩
  · have hbw : Below w.heap.size w w1 := HB.out.trans (hb1.mono HB.out.size)
    rw [HCL.out] at h1
    rw [HNN.out] at hown
    rw [HNN.out]
    have hz := codeK_zero h1
    have hlx := (alpha_len xs hz.1).2
    have hvl : vs.length = n1 + 1 := by have := hown.1; omega
    have hgood := keys_good hlx hz.2.1 hz.2.2.2.1
    have hph : phrasesB ls = true := by have := hz.2.1; unfold phrasesB at *; rw [List.all_append, Bool.and_eq_true] at this; exact this.1
    have hcp : ls.all (canP xs) = true := by have := hz.2.2.2.1; rw [List.all_append, Bool.and_eq_true] at this; exact this.1
    have hgl := keys_good hlx hph hcp
    have hgs := hgood (keyP xs s) (by simp)
    have hcells : ∀ (j : Nat) v, vs[j]? = some v → w1.cell? ⟨g, j, none⟩ = some v ∧ w1.frozen? ⟨g, j, none⟩ = false := fun j v hv => ⟨(hown.cellAt j (by have := (List.getElem?_eq_some_iff.1 hv).1; omega)).trans hv, hown.frozenAt j⟩
    have hcl2 : ∀ (j : Nat) v, (vs.take n1)[j]? = some v → w1.cell? ⟨g, j, none⟩ = some v ∧ w1.frozen? ⟨g, j, none⟩ = false := fun j v hv => hcells j v (by
      rw [List.getElem?_take] at hv
      split at hv
      · exact hv
      · cases hv)
    have hks2 : KeysAt w1 g (vs.take n1) (ls.map (keyP xs)) := by
      refine ⟨by rw [List.length_take, List.length_map, ← HLL.out]; omega, fun j v k hv hk => hks.2 j v k ?_ ?_⟩
      · rw [List.getElem?_take] at hv
        split at hv
        · exact hv
        · cases hv
      · rw [List.map_append]
        have := (List.getElem?_eq_some_iff.1 hk).1
        rw [List.getElem?_append_left this]; exact hk
    obtain ⟨tv, htv⟩ : ∃ tv, vs[n1]? = some tv := ⟨vs[n1]'(by omega), List.getElem?_eq_getElem _⟩
    have hkt : KeyAt w1 g tv (keyP xs s) := hks.2 n1 tv _ htv (by
      rw [List.getElem?_map, List.getElem?_append_right (by rw [← HLL.out]; exact Nat.le_refl _), ← HLL.out, Nat.sub_self]; rfl)
    have hct := (hcells n1 tv htv).1
    have hlsb : ls.length ≤ 1048576 := by rw [← HLL.out]; assumption
    have CW : Hid (∀ q, Calls Tryd.prog 43 #[.slice none 0 0] (w1.drewN q) (OrderPost [] (w1.drewN q))) := Lib.hid (fun q => cOrderW none 0 0 [] (w1.drewN q) (by unfold maxLen; omega) (by simp) ⟨rfl, fun h => absurd h (by omega)⟩)
    have CI : Hid (∀ W gF gI, Below w1.heap.size w1 W → FnAt W gF gI → IgAt W gI [] → w1.heap.size ≤ gF → w1.heap.size ≤ gI → Calls Tryd.prog 54 #[.slice (some ⟨g, 0, none⟩) n1 (n1 + 1), .func (.func 77) #[] #[.pointer (some ⟨gF, 0, none⟩)]] W
      fun e w' => e = .returned (.bool (adjB (ordP xs []) ls)) ∧ Below W.heap.size W w') := Lib.hid (fun W gF gI hW hF hI hgF hgI => by
        have := cIsSortedK xs ls [] (vs.take n1) g gF gI (n1 + 1) w1 W hW hg2 hcl2 hks2 hgl hlsb hF hI hgF hgI
        rw [← HLL.out] at this; exact this)
    have CS : Hid (∀ W gF gI, adjB (ordP xs []) ls = true → Below w1.heap.size w1 W → FnAt W gF gI → IgAt W gI [] → w1.heap.size ≤ gF → w1.heap.size ≤ gI → Calls Tryd.prog 55 #[.slice (some ⟨g, 0, none⟩) n1 (n1 + 1), tv, .func (.func 77) #[] #[.pointer (some ⟨gF, 0, none⟩)]] W
      fun e w' => (∃ b : Bool, e = .returned (.tuple #[.int .i64 (cntB (ordP xs []) ls s : Nat), .bool b])) ∧ Below W.heap.size W w') := Lib.hid (fun W gF gI hso hW hF hI hgF hgI => by
        have := cSearchK xs ls s (vs.take n1) g gF gI (n1 + 1) tv w1 W hW hg2 hcl2 hks2 hgl hlsb hkt hgs hso hF hI hgF hgI
        rw [← HLL.out] at this; exact this)
    have H1 := Lib.hid h1
    have hd : (codeK xs (ls ++ [s]) [] n1 != 0) = false := by rw [HCL.out, h1]; rfl
    obtain ⟨N, hNe⟩ : ∃ N, N = n1 + 1 := ⟨_, rfl⟩
    rw [← hNe] at CI CS ⊢
    have u1 : (0 : Int) ≤ (n1 : Int) := Int.natCast_nonneg _
    have u2 : (n1 : Int) < (N : Int) := by omega
    have u3 : (n1 : Int) ≤ (N : Int) := by omega
    have u4 : n1 ≤ N := by omega
    have u5 : n1 < N := by omega
    clear hNe h1 CK hz hks hks2 hown hcells hcl2 hgood hgl hgs hph hcp hkt htv hvl
    go_wp2_with fail
    go_quiet (fail)
    go_wp2_with fail
    refine (CW.out _).mono ?_
    rintro e w2 ⟨gF, gI, rfl, hF, hI, hgI, hgF, hb3'⟩
    have hb3 : Below w1.heap.size w1 w2 := ⟨hb3'.os, hb3'.tape, hb3'.output, hb3'.size, hb3'.block⟩
    have CI2 := Lib.hid (CI.out w2 gF gI hb3 hF hI hgF hgI)
    have CS2 : Hid (∀ W, adjB (ordP xs []) ls = true → Below w2.heap.size w2 W → Calls Tryd.prog 55 #[.slice (some ⟨g, 0, none⟩) n1 N, tv, .func (.func 77) #[] #[.pointer (some ⟨gF, 0, none⟩)]] W
      fun e w' => (∃ b : Bool, e = .returned (.tuple #[.int .i64 (cntB (ordP xs []) ls s : Nat), .bool b])) ∧ Below W.heap.size W w') := Lib.hid (fun W hso hW => CS.out W gF gI hso (hb3.trans (hW.mono hb3.size)) (hF.below hW) (hI.below hW) hgF hgI)
    have HB3 := Lib.hid hb3
    have hb13 : Below w.heap.size w w2 := hbw.trans (hb3.mono hbw.size)
    clear hF hI CI CS CW hb3' hb3
    cases hso : adjB (ordP xs []) ls
    · have HV := Lib.hid (fpV_state xs ls s H1.out hso)
      rw [hso] at CI2
      clear hso
      go_wp2_with fail
      refine CI2.out.mono ?_
      rintro e w3 ⟨rfl, hb4⟩
      go_wp2_with fail
      go_ret2
      exact ⟨by rw [HV.out]; rfl, hb13.trans (hb4.mono hb13.size)⟩
    · have HV := Lib.hid (fpV_yes xs ls s H1.out hso)
      rw [hso] at CI2
      have CS3 := Lib.hid (fun W => CS2.out W hso)
      clear hso
      obtain ⟨cn, hcn⟩ : ∃ cn, cn = cntB (ordP xs []) ls s := ⟨_, rfl⟩
      rw [← hcn] at CS3 HV
      clear hcn
      go_wp2_with fail
      refine CI2.out.mono ?_
      rintro e w3 ⟨rfl, hb4⟩
      go_wp2_with fail
      refine (CS3.out w3 hb4).mono ?_
      rintro e w4 ⟨⟨b, rfl⟩, hb5⟩
      go_wp2_with fail
      go_ret2
      exact ⟨by rw [HV.out]; rfl, (hb13.trans (hb4.mono hb13.size)).trans (hb5.mono (Nat.le_trans hb13.size hb4.size))⟩
end
section
set_option linter.unusedVariables false
open Go.RowKit

def codeB (xs ps : List ByteArray) (ig : List Int) : Int := if alphaB xs && phrasesB ps then (if allW 0 ((xs.length : Int) - 1) ig then (if ps.all (canP xs) then 0 else 4) else 2) else 1
theorem codeK_B (xs ps : List ByteArray) (ig : List Int) (nl : Nat) : codeK xs ps ig nl = if codeB xs ps ig = 0 then (if 20 < nl then 3 else 0) else codeB xs ps ig := by
  unfold codeK codeB
  cases alphaB xs && phrasesB ps
  · simp
  · cases allW 0 ((xs.length : Int) - 1) ig
    · simp
    · cases ps.all (canP xs)
      · simp
      · simp
theorem codeB_val (xs ps : List ByteArray) (ig : List Int) : codeB xs ps ig = 0 ∨ codeB xs ps ig = 1 ∨ codeB xs ps ig = 2 ∨ codeB xs ps ig = 4 := by
  unfold codeB
  cases alphaB xs && phrasesB ps
  · simp
  · cases allW 0 ((xs.length : Int) - 1) ig
    · simp
    · cases ps.all (canP xs)
      · simp
      · simp
theorem codeB_cons (xs ls : List ByteArray) (s : ByteArray) (ig : List Int) : codeB xs (s :: ls) ig = codeB xs (ls ++ [s]) ig := by
  have h1 : phrasesB (s :: ls) = phrasesB (ls ++ [s]) := by unfold phrasesB; rw [List.all_cons, List.all_append, Bool.and_comm]; simp
  have h2 : (s :: ls).all (canP xs) = (ls ++ [s]).all (canP xs) := by rw [List.all_cons, List.all_append, Bool.and_comm]; simp
  unfold codeB; rw [h1, h2]
/-- The codes of the two texts are the same but for the limit. -/
theorem code_cases (xs ls : List ByteArray) (s : ByteArray) (n : Nat) :
    (codeK xs (ls ++ [s]) [] n ≠ 0 ∧ codeK xs (s :: ls) [] (n + 1) = codeK xs (ls ++ [s]) [] n ∧ (codeK xs (ls ++ [s]) [] n ≠ 3 ∨ 20 < n)) ∨
    (codeK xs (ls ++ [s]) [] n = 0 ∧ n ≤ 20 ∧ (codeK xs (s :: ls) [] (n + 1) = 0 ∨ codeK xs (s :: ls) [] (n + 1) = 3)) := by
  rw [codeK_B xs (ls ++ [s]) [] n, codeK_B xs (s :: ls) [] (n + 1), codeB_cons]
  have hv := codeB_val xs (ls ++ [s]) []
  by_cases h0 : codeB xs (ls ++ [s]) [] = 0
  · rw [if_pos h0, if_pos h0]
    by_cases h20 : 20 < n
    · left
      rw [if_pos h20, if_pos (by omega)]
      exact ⟨by omega, rfl, .inr h20⟩
    · right
      rw [if_neg h20]
      refine ⟨rfl, by omega, ?_⟩
      by_cases h21 : 20 < n + 1
      · rw [if_pos h21]; exact .inr rfl
      · rw [if_neg h21]; exact .inl rfl
  · left
    rw [if_neg h0, if_neg h0]
    exact ⟨h0, rfl, .inl (by omega)⟩
theorem cntB_step (o : ByteArray → ByteArray → Int) (ls : List ByteArray) (s : ByteArray) (k : Nat) (hk : k ≤ ls.length) (h1 : ∀ a ∈ ls.take k, o a s < 0) (h2 : ∀ b ∈ ls.drop k, ¬ o b s < 0) : cntB o ls s = k := cnt_at o s ls k hk h1 h2

set_option maxHeartbeats 4000000 in
set_option maxRecDepth 100000 in
theorem tFP_spec (A A1 : Option Addr) (n n1 c c1 : Nat) (xs ls : List ByteArray) (s : ByteArray) (w : World) (hbig : n ≤ 1048576) (hs : ∀ x ∈ xs, x.size ≤ maxLen) (h : TextAt w w.heap.size A n xs) (h1 : SrcT w A1 n1 c1 ls) (hb1 : n1 ≤ 1048576) (hs1 : ∀ x ∈ ls, x.size ≤ 1048576) (hsz : s.size ≤ 1048576) :
    Calls Tryd.prog 20 #[.slice A n c, .slice A1 n1 c1, .string s] w fun e w' => e = .returned (fpV xs ls s) ∧ Below w.heap.size w w' := by
  obtain ⟨i0, hi0, hz0, hz1, hz2⟩ := info_parts info_str
  have hll : n1 = ls.length := h1.len
  have H := Lib.hid h
  have H1 := Lib.hid h1
  have HS := Lib.hid hs
  have HS1 := Lib.hid hs1
  have HLL := Lib.hid hll
  have CC : Hid (∀ (W : World) (C : Option Addr) (cc : Nat), Below w.heap.size w W → TextAt W W.heap.size C (1 + n1) (s :: ls) → Calls Tryd.prog 44 #[.slice A n c, .slice C (1 + n1) cc, .slice (some ⟨W.heap.size, 0, none⟩) 0 0] (W.alloc (.cells #[] 2)) fun e w' => e = .returned (.int .i64 (codeK xs (s :: ls) [] (n1 + 1))) ∧ Below w.heap.size w w') := Lib.hid (fun W C cc hW hT => by
    have hba : Below w.heap.size w (W.alloc (.cells #[] 2)) := hW.alloc hW.size _
    have hbw : Below W.heap.size W (W.alloc (.cells #[] 2)) := (Below.refl _ _).alloc (Nat.le_refl _) _
    refine (cCode6 A C (some ⟨W.heap.size, 0, none⟩) n (1 + n1) 0 c cc 0 xs (s :: ls) [] _ hbig hs ((h.below hba (Nat.le_refl _)).more hba.size) ((hT.below hbw (Nat.le_refl _)).more hbw.size) (by omega) (fun x hx => ?_) ⟨rfl, fun h => absurd h (by omega)⟩ (by unfold maxLen; omega)).mono ?_
    · rcases List.mem_cons.1 hx with rfl | hx
      · exact hsz
      · exact hs1 x hx
    · rintro e w' ⟨he, hb⟩
      rw [show 1 + n1 = n1 + 1 by omega] at he
      exact ⟨he, hba.trans (hb.mono hba.size)⟩)
  have own0 : (w.alloc (.cells #[.string s] 9)).ownsRow w.heap.size 9 1 (.slice (some ⟨w.heap.size, 0, none⟩) 1 1) 1 (strV [s]) := World.ownsRow_lit (e := 9) (base := w.heap.size) (size := 1) w #[.string s] 1 (Nat.le_refl _) (by decide) rfl
  have hba0 : Below w.heap.size w (w.alloc (.cells #[.string s] 9)) := (Below.refl _ _).alloc (Nat.le_refl _) _
  have src0 := h1.below hba0
  clear h h1 hs hs1 hll
  rcases code_cases xs ls s n1 with ⟨hc0, hc1, hc3⟩ | ⟨hc0, hn20, hc1⟩
  · -- an error
    have HV := Lib.hid (fpV_no xs ls s (by rw [← HLL.out]; exact hc0))
    rw [← HLL.out] at HV
    rw [hc1] at CC
    obtain ⟨r, hr⟩ : ∃ r, r = codeK xs (ls ++ [s]) [] n1 := ⟨_, rfl⟩
    rw [← hr] at CC HV hc0 hc3
    have hd0 : (r == 0) = false := by simp [hc0]
    have hd1 : (r != 0) = true := by simp [hc0]
    clear hr hc1
    by_cases h3 : r = 3
    · have hd3 : (r == 3) = true := by simp [h3]
      have hg : ¬ n1 ≤ 20 := by omega
      have hg2 : ¬ (n1 : Int) ≤ 20 := by omega
      clear h3 hc3 hc0
      go_enter Tryd.func20, Tryd.ntmps20
      go_wp2_with (at_builtin; refine wpList_append_src rfl _ _ rfl w.heap.size _ 1 _ rfl own0 A1 n1 c1 ls rfl src0 (by omega) hba0.size ?_)
      intro v1 w1 hown1 hgrow1
      obtain ⟨C, cc, rfl⟩ := str_form hown1
      have hb1' := hba0.grown hgrow1 hba0.size (fun k hk => (own0.lt k hk).1)
      have hT : TextAt w1 w1.heap.size C (1 + n1) (s :: ls) := ⟨by rw [HLL.out, List.length_cons]; omega, fun hp => by
        obtain ⟨g, cg, hv, _, hgl⟩ := World.ownsRow.form hown1 hp
        injection hv with e1 e2 e3
        exact ⟨g, 0, e1, hgl, fun j x hx => by
          rw [Nat.zero_add]
          exact (World.ownsRow.cellAt (e1 ▸ hown1) j (by have h9 := (List.getElem?_eq_some_iff.1 hx).1; have := HLL.out; rw [List.length_cons] at h9; omega)).trans (strV_at _ _ _ hx)⟩⟩
      have CC2 := Lib.hid (CC.out w1 C cc hb1' hT)
      clear hT hown1 hgrow1 CC own0 src0
      go_wp2_with fail
      refine CC2.out.mono ?_
      rintro e w2 ⟨rfl, hb2⟩
      go_wp2_with fail
      go_ret2
      exact ⟨by rw [HV.out]; rfl, hb2⟩
    · have hd3 : (r == 3) = false := by simp [h3]
      clear h3 hc3 hc0
      go_enter Tryd.func20, Tryd.ntmps20
      go_wp2_with (at_builtin; refine wpList_append_src rfl _ _ rfl w.heap.size _ 1 _ rfl own0 A1 n1 c1 ls rfl src0 (by omega) hba0.size ?_)
      intro v1 w1 hown1 hgrow1
      obtain ⟨C, cc, rfl⟩ := str_form hown1
      have hb1' := hba0.grown hgrow1 hba0.size (fun k hk => (own0.lt k hk).1)
      have hT : TextAt w1 w1.heap.size C (1 + n1) (s :: ls) := ⟨by rw [HLL.out, List.length_cons]; omega, fun hp => by
        obtain ⟨g, cg, hv, _, hgl⟩ := World.ownsRow.form hown1 hp
        injection hv with e1 e2 e3
        exact ⟨g, 0, e1, hgl, fun j x hx => by
          rw [Nat.zero_add]
          exact (World.ownsRow.cellAt (e1 ▸ hown1) j (by have h9 := (List.getElem?_eq_some_iff.1 hx).1; have := HLL.out; rw [List.length_cons] at h9; omega)).trans (strV_at _ _ _ hx)⟩⟩
      have CC2 := Lib.hid (CC.out w1 C cc hb1' hT)
      clear hT hown1 hgrow1 CC own0 src0
      go_wp2_with fail
      refine CC2.out.mono ?_
      rintro e w2 ⟨rfl, hb2⟩
      go_wp2_with fail
      go_ret2
      exact ⟨by rw [HV.out]; rfl, hb2⟩
  · -- no error so far
    have hc0' : codeK xs (ls ++ [s]) [] ls.length = 0 := by rw [← HLL.out]; exact hc0
    have hz := codeK_zero hc0'
    have hlx := (alpha_len xs hz.1).2
    have hph : phrasesB ls = true ∧ phraseB s = true := by
      have := hz.2.1
      unfold phrasesB at this
      rw [List.all_append, Bool.and_eq_true] at this
      exact ⟨this.1, by simpa using this.2⟩
    have hcp : ls.all (canP xs) = true ∧ canP xs s = true := by
      have := hz.2.2.2.1
      rw [List.all_append, Bool.and_eq_true] at this
      exact ⟨this.1, by simpa using this.2⟩
    have CS : Hid (∀ W, Below w.heap.size w W → Calls Tryd.prog 56 #[.slice A n c, .slice A1 n1 c1, .slice (some ⟨W.heap.size, 0, none⟩) 0 0] (W.alloc (.cells #[] 2)) fun e w' => e = .returned (.bool (adjB (ordP xs []) ls)) ∧ Below w.heap.size w w') := Lib.hid (fun W hW => by
      have hba : Below w.heap.size w (W.alloc (.cells #[] 2)) := hW.alloc hW.size _
      refine (cSorted6 A A1 (some ⟨W.heap.size, 0, none⟩) n n1 0 c c1 0 xs ls [] _ hz.1 ((H.out.below hba (Nat.le_refl _)).more hba.size) ((H1.out.at.below hba (Nat.le_refl _)).more hba.size) hb1 HS1.out hph.1 hcp.1 ⟨rfl, fun h => absurd h (by omega)⟩ (by unfold maxLen; omega) (by simp)).mono ?_
      rintro e w' ⟨he, hb⟩
      exact ⟨he, hba.trans (hb.mono hba.size)⟩)
    have CO : Hid (∀ W x, Below w.heap.size w W → x ∈ ls → Calls Tryd.prog 45 #[.slice A n c, .string x, .string s, .slice (some ⟨W.heap.size, 0, none⟩) 0 0] (W.alloc (.cells #[] 2)) fun e w' => e = .returned (.int .i64 (ordP xs [] x s)) ∧ Below w.heap.size w w') := Lib.hid (fun W x hW hx => by
      have hba : Below w.heap.size w (W.alloc (.cells #[] 2)) := hW.alloc hW.size _
      have hca : ∀ y ∈ ls, canP xs y = true := by have := hcp.1; rw [List.all_eq_true] at this; exact this
      refine (cComp6 A (some ⟨W.heap.size, 0, none⟩) n 0 c 0 xs x s [] _ hz.1 ((H.out.below hba (Nat.le_refl _)).more hba.size) (HS1.out x hx) hsz (phrasesB_mem ls hph.1 x hx) hph.2 (hca x hx) hcp.2 ⟨rfl, fun h => absurd h (by omega)⟩ (by unfold maxLen; omega) (by simp)).mono ?_
      rintro e w' ⟨he, hb⟩
      exact ⟨he, hba.trans (hb.mono hba.size)⟩)
    obtain ⟨r, hr⟩ : ∃ r, r = codeK xs (s :: ls) [] (n1 + 1) := ⟨_, rfl⟩
    rw [← hr] at CC hc1
    have hg : (n1 : Int) ≤ 20 := by omega
    have HZ := Lib.hid hc0'
    have hsrt : adjB (ordP xs []) ls = true → srt (ordP xs []) ls := adj_srt (ordP xs []) (fun a b c h1 h2 => ordK_trans [] _ _ _ h1 h2) ls
    have HSRT := Lib.hid hsrt
    clear hr hz hph hcp hc0 hc0' hlx hsrt
    have hd0 : (r = 3 ∧ (r == 3) = true) ∨ (r = 0 ∧ (r == 3) = false) := by
      rcases hc1 with h | h
      · exact .inr ⟨h, by simp [h]⟩
      · exact .inl ⟨h, by simp [h]⟩
    clear hc1
    go_enter Tryd.func20, Tryd.ntmps20
    go_wp2_with (at_builtin; refine wpList_append_src rfl _ _ rfl w.heap.size _ 1 _ rfl own0 A1 n1 c1 ls rfl src0 (by omega) hba0.size ?_)
    intro v1 w1 hown1 hgrow1
    obtain ⟨C, cc, rfl⟩ := str_form hown1
    have hb1' := hba0.grown hgrow1 hba0.size (fun k hk => (own0.lt k hk).1)
    have hT : TextAt w1 w1.heap.size C (1 + n1) (s :: ls) := ⟨by rw [HLL.out, List.length_cons]; omega, fun hp => by
      obtain ⟨g, cg, hv, _, hgl⟩ := World.ownsRow.form hown1 hp
      injection hv with e1 e2 e3
      exact ⟨g, 0, e1, hgl, fun j x hx => by
        rw [Nat.zero_add]
        exact (World.ownsRow.cellAt (e1 ▸ hown1) j (by have h9 := (List.getElem?_eq_some_iff.1 hx).1; have := HLL.out; rw [List.length_cons] at h9; omega)).trans (strV_at _ _ _ hx)⟩⟩
    have CC2 := Lib.hid (CC.out w1 C cc hb1' hT)
    clear hT hown1 hgrow1 CC own0 src0
    go_wp2_with fail
    refine CC2.out.mono ?_
    rintro e w2 ⟨rfl, hb2⟩
    clear CC2 hb1'
    rcases hd0 with ⟨rfl, hd3⟩ | ⟨rfl, hd3⟩
    all_goals
      cases hso : adjB (ordP xs []) ls
      · have HV := Lib.hid (fpV_state xs ls s HZ.out hso)
        have CS2 := Lib.hid (CS.out w2 hb2)
        rw [hso] at CS2
        clear hso
        go_wp2_with fail
        refine CS2.out.mono ?_
        rintro e w3 ⟨rfl, hb3⟩
        go_wp2_with fail
        go_ret2
        exact ⟨by rw [HV.out]; rfl, hb3⟩
      · have HV := Lib.hid (fpV_yes xs ls s HZ.out hso)
        have CS2 := Lib.hid (CS.out w2 hb2)
        have HSO := Lib.hid (HSRT.out hso)
        rw [hso] at CS2
        clear hso
        go_wp2_with fail
        refine CS2.out.mono ?_
        rintro e w3 ⟨rfl, hb3⟩
        go_wp2_with fail
        go_loopw [9] (fun i wr => ∃ k : Nat, k ≤ n1 ∧ i = .int .i64 k ∧ Hid (∀ a ∈ ls.take k, ordP xs [] a s < 0) ∧ Below w.heap.size w wr) (fun i _ => n1 - (intOf i).toNat)
        case atStart => exact ⟨0, Nat.zero_le _, rfl, Lib.hid (by simp), hb3⟩
        case round =>
          obtain ⟨k, hk, rfl, HB, hbw⟩ := hrel
          by_cases hlt : k < n1
          · obtain ⟨x, hx⟩ : ∃ x, ls[k]? = some x := ⟨ls[k]'(by have := HLL.out; omega), List.getElem?_eq_getElem _⟩
            obtain ⟨b, o, rfl, hbb, hcx0⟩ := H1.out.at.row hx
            have hcx := (hbw.cell (by exact hbb)).trans hcx0
            have CX := Lib.hid (CO.out wr x hbw (List.mem_of_getElem? hx))
            have hst : ordP xs [] x s < 0 → ∀ a ∈ ls.take (k + 1), ordP xs [] a s < 0 := fun h0 a ha => by
              have hl := (List.getElem?_eq_some_iff.1 hx).1
              have he : ls[k] = x := (List.getElem?_eq_some_iff.1 hx).2
              rw [List.take_succ_eq_append_getElem hl, he, List.mem_append, List.mem_singleton] at ha
              rcases ha with ha | rfl
              · exact HB.out a ha
              · exact h0
            have hen : ¬ ordP xs [] x s < 0 → cntB (ordP xs []) ls s = k := fun h0 => cntB_step _ ls s k (by have := HLL.out; omega) HB.out (fun b hb => by
              have hl := (List.getElem?_eq_some_iff.1 hx).1
              have he : ls[k] = x := (List.getElem?_eq_some_iff.1 hx).2
              have hs2 := HSO.out
              unfold srt at hs2
              rw [← List.take_append_drop k ls, List.pairwise_append] at hs2
              have hs3 := hs2.2.1
              rw [List.drop_eq_getElem_cons hl, he] at hb hs3
              rw [List.pairwise_cons] at hs3
              rcases List.mem_cons.1 hb with rfl | hb
              · exact h0
              · have h2 := hs3.1 b hb
                intro h3
                have h4 := ordK_trans [] (keyP xs x) (keyP xs b) (keyP xs s) h2 (by unfold ordP at h3; omega)
                rcases (show ordP xs [] x s < 0 ∨ ordP xs [] x s = 0 by unfold ordP; omega) with h5 | h5
                · exact h0 h5
                · have e := ordK_zero [] _ _ h5
                  have h6 : ordK [] (keyP xs x) (keyP xs b) ≤ 0 := h2
                  rw [e] at h6
                  have := ordK_neg [] (keyP xs s) (keyP xs b)
                  unfold ordP at h3; omega)
            obtain ⟨q, hq⟩ : ∃ q, q = ordP xs [] x s := ⟨_, rfl⟩
            rw [← hq] at CX hst hen
            have u1 : (0 : Int) ≤ (k : Int) := Int.natCast_nonneg _
            have u2 : (k : Int) < (n1 : Int) := by omega
            clear hq hx hcx0
            by_cases h0 : q < 0
            · have HN := Lib.hid (hst h0)
              clear hst hen
              go_wp2_with fail
              refine CX.out.mono ?_
              rintro e w5 ⟨rfl, hb5⟩
              go_wp2_with fail
              go_roundw
              case rel => exact ⟨k + 1, by omega, by go_num, HN, hb5⟩
              case measure => simp [intOf]; omega
            · have HN := Lib.hid (hen h0)
              clear hst hen
              go_wp2_with fail
              refine CX.out.mono ?_
              rintro e w5 ⟨rfl, hb5⟩
              go_wp2_with fail
              go_ret2
              exact ⟨by rw [HV.out, HN.out]; rfl, hb5⟩
          · have HN := Lib.hid (cntB_step (ordP xs []) ls s k (by have := HLL.out; omega) HB.out (by rw [List.drop_of_length_le (by have := HLL.out; omega)]; simp))
            go_wp2_with fail
            go_ret2
            exact ⟨by rw [HV.out, HN.out]; rfl, hbw⟩
end
end Go.Proofs.YtjockiedganokaaDoor
