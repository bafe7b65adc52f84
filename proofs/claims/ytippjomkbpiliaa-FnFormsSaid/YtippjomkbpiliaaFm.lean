/-
  The contracts of impl.FormsOf and impl.BasesOf.
-/
import Derived.Test.YtippjomkbpiliaaFmFn
import Derived.Test.YtippjomkbpiliaaSetS
import Derived.Test.YtippjomkbpiliaaEnT
import Derived.Test.YtippjomkbpiliaaArgs
import Derived.Laws.OwnMore
import Derived.Deep.AppendLies
import Derived.Handy
import Derived.Laws.EntriesVeiled
namespace Go.Proofs.Ytippjomkbpiliaa
set_option linter.unusedVariables false
open Go.RowKit

theorem toL_ofL (ls : List (List UInt8)) : toL (ofL ls) = ls := by
  unfold toL ofL; rw [List.map_map]
  conv => rhs; rw [← List.map_id ls]
  apply List.map_congr_left
  intro x _
  rfl
theorem fm_take_step (F : En → Option ByteArray) (xs : List En) (k : Nat) (x : En) (h : xs[k]? = some x) : (xs.take (k + 1)).filterMap F = (xs.take k).filterMap F ++ (match F x with | some t => [t] | none => []) := by
  rw [take_snocE h, List.filterMap_append]
  congr 1
  cases hf : F x <;> simp [hf]
theorem fm_all (F : En → Option ByteArray) (xs : List En) (k : Nat) (h : xs.length ≤ k) : (xs.take k).filterMap F = xs.filterMap F := by rw [List.take_of_length_le h]
theorem grown_own {w w' w2 : World} {r : Option Nat} (h : Below w.heap.size w w') (hg : w'.grownBy w2 r) (hr : ∀ k, r = some k → w.heap.size ≤ k) : Below w.heap.size w w2 := h.grown hg h.size hr

def MadeOut (ys : List ByteArray) (w : World) (e : Ending) (w' : World) : Prop :=
  ∃ A m c, e = .returned (.slice A m c) ∧ w'.ownsRow w.heap.size 9 1 (.slice A m c) m (strV (setT ys)) ∧ Below w.heap.size w w'

def OutT (zs : List ByteArray) (code : Int) (w : World) (e : Ending) (w' : World) : Prop :=
  ∃ A n c, e = .returned (.tuple #[.slice A n c, .int .i64 code]) ∧ w'.ownsRow w.heap.size 9 1 (.slice A n c) n (strV zs) ∧ Below w.heap.size w w'

def fmC (xs : List En) (word : ByteArray) : Int := if tabE xs && wordB word then 0 else 1
def formsZ (xs : List En) (word : ByteArray) : List ByteArray := if tabE xs && wordB word then setT (xs.filterMap (formO word)) else []
def basesZ (xs : List En) (word : ByteArray) : List ByteArray := if tabE xs && wordB word then setT (xs.filterMap (baseO word)) else []
theorem formsZ_len (xs : List En) (word : ByteArray) : (formsZ xs word).length ≤ 16 := by
  unfold formsZ
  split
  · rename_i h
    rw [Bool.and_eq_true] at h
    exact Nat.le_trans (setT_len _) (Nat.le_trans (List.length_filterMap_le _ _) (tabE_len xs h.1))
  · exact Nat.zero_le _
theorem basesZ_len (xs : List En) (word : ByteArray) : (basesZ xs word).length ≤ 16 := by
  unfold basesZ
  split
  · rename_i h
    rw [Bool.and_eq_true] at h
    exact Nat.le_trans (setT_len _) (Nat.le_trans (List.length_filterMap_le _ _) (tabE_len xs h.1))
  · exact Nat.zero_le _
theorem fmC_bad {xs : List En} {word : ByteArray} (h : (tabE xs && wordB word) = false) : fmC xs word = 1 := by unfold fmC; rw [h]; rfl
theorem fmC_ok {xs : List En} {word : ByteArray} (h : (tabE xs && wordB word) = true) : fmC xs word = 0 := by unfold fmC; rw [h]; rfl
theorem formsZ_bad {xs : List En} {word : ByteArray} (h : (tabE xs && wordB word) = false) : formsZ xs word = [] := by unfold formsZ; rw [h]; rfl
theorem formsZ_ok {xs : List En} {word : ByteArray} (h : (tabE xs && wordB word) = true) : formsZ xs word = setT (xs.filterMap (formO word)) := by unfold formsZ; rw [h]; rfl
theorem basesZ_bad {xs : List En} {word : ByteArray} (h : (tabE xs && wordB word) = false) : basesZ xs word = [] := by unfold basesZ; rw [h]; rfl
theorem basesZ_ok {xs : List En} {word : ByteArray} (h : (tabE xs && wordB word) = true) : basesZ xs word = setT (xs.filterMap (baseO word)) := by unfold basesZ; rw [h]; rfl

set_option maxHeartbeats 2000000 in
set_option maxRecDepth 100000 in
theorem cMadeF (A : Option Addr) (n c p : Nat) (xs : List En) (F : En → Option ByteArray) (w : World) (hbig : n ≤ 1048576) (h : EnAt w w.heap.size A n xs)
    (hF : ∀ W e, Below w.heap.size w W → e ∈ xs → Calls Try.prog 68 #[.agg #[.string e.1, .string e.2.1, .int .i64 e.2.2], .pointer (some ⟨p, 0, none⟩)] W fun e' w' => e' = .returned (optV (F e)) ∧ Below W.heap.size W w') :
    Calls Try.prog 39 #[.slice A n c, .func (.func 68) #[] #[.pointer (some ⟨p, 0, none⟩)]] w (MadeOut (xs.filterMap F) w) := by
  obtain ⟨i0, hi0, hz0, hz1, hz2⟩ := info_parts info_str
  have H := Lib.hid h
  have HN := Lib.hid h.1
  have HF := Lib.hid hF
  clear h hF
  go_enter Try.func39, Try.ntmps39
  go_wp2_with fail
  go_loopw [5, 12] (fun o i wr => ∃ (k m d : Nat) (B : Option Addr), k ≤ n ∧ i = .int .i64 k ∧ o = .slice B m d ∧ Hid (m ≤ k) ∧ Hid (wr.ownsRow w.heap.size 9 1 (.slice B m d) m (strV ((xs.take k).filterMap F))) ∧ Below w.heap.size w wr) (fun _ i _ => n - (intOf i).toNat)
  case atStart => exact ⟨0, 0, 0, none, Nat.zero_le _, rfl, rfl, Lib.hid (Nat.le_refl _), Lib.hid (World.ownsRow_nil _ _ _ _), Below.refl _ _⟩
  case round =>
    obtain ⟨k, m, d, B, hk, rfl, rfl, HM, HO, hbw⟩ := hrel
    by_cases hlt : k < n
    · obtain ⟨x, hx⟩ : ∃ x, xs[k]? = some x := ⟨xs[k]'(by have := HN.out; omega), List.getElem?_eq_getElem _⟩
      obtain ⟨b, o, rfl, hbl, c0, c1, c2⟩ := (H.out.below hbw (Nat.le_refl _)).row hx
      have hst := fm_take_step F xs k x hx
      have hb1 := hbw.alloc hbw.size (.cells #[.string x.1, .string x.2.1, .int .i64 x.2.2] 60)
      have HB := Lib.hid hb1
      have HST := Lib.hid hst
      have CF := Lib.hid (fun W (hW : Below w.heap.size w W) => HF.out W x hW (List.mem_of_getElem? hx))
      have HO1 := Lib.hid (HO.out.alloc (.cells #[.string x.1, .string x.2.1, .int .i64 x.2.2] 60))
      have u1 : (0 : Int) ≤ (k : Int) := Int.natCast_nonneg _
      have u2 : (k : Int) < (n : Int) := by omega
      clear hx hst hb1
      cases hf : F x with
      | none =>
        rw [hf] at CF HST
        dsimp only [optV] at CF
        rw [List.append_nil] at HST
        clear hf
        go_wp2_with fail
        refine (show Calls Try.prog 68 _ _ _ from CF.out _ HB.out).mono ?_
        rintro e w2 ⟨rfl, hb2⟩
        have hbt := bstep HB.out HB.out.size hb2
        have HO2 : Hid (w2.ownsRow w.heap.size 9 1 (.slice B m d) m (strV ((xs.take (k + 1)).filterMap F))) := Lib.hid (by
          rw [HST.out]
          exact HO1.out.kept ⟨hb2.os, hb2.tape, hb2.output, hb2.size, fun j hj _ => hb2.block j hj⟩ (row := none) (by
            rcases hh : (Value.slice B m d).ownBlock with _ | q
            · exact .inl rfl
            · exact .inr (fun e => by cases e)))
        clear hb2
        go_wp2_with fail
        go_roundw
        case rel => exact ⟨k + 1, m, d, B, by omega, by go_num, rfl, Lib.hid (by have := HM.out; omega), HO2, hbt⟩
        case measure => simp [intOf]; omega
      | some t =>
        rw [hf] at CF HST
        dsimp only [optV] at CF
        clear hf
        go_wp2_with fail
        refine (show Calls Try.prog 68 _ _ _ from CF.out _ HB.out).mono ?_
        rintro e w2 ⟨rfl, hb2⟩
        have hbt := bstep HB.out HB.out.size hb2
        have hown := HO1.out.kept ⟨hb2.os, hb2.tape, hb2.output, hb2.size, fun j hj _ => hb2.block j hj⟩ (row := none) (by
            rcases hh : (Value.slice B m d).ownBlock with _ | q
            · exact .inl rfl
            · exact .inr (fun e => by cases e))
        have hmk := HM.out
        clear hb2
        go_wp2_with (at_builtin; refine wpList_append_own _ rfl _ _ 27 rfl w.heap.size 9 i0 _ 1 16 Try.underlying27 hi0 hz0 hz1 hz2 rfl (by decide) _ _ _ rfl (hown.alloc _) ⟨w2.heap.size, 0, none⟩ 1 1 [.string t] rfl rfl ?d1 ?d2 ?d3 ?d4 ?d5 ?_)
        case d1 => exact one_cell' _ _ _ (new_one _ _ _)
        case d2 => intro u hu; simp at hu; subst hu; rfl
        case d3 => unfold maxLen; omega
        case d4 => omega
        case d5 => have := hbt.size; simp; omega
        intro v' w3 hown3 hgrow3 _
        rw [strV_snoc] at hown3
        have hb3 : Below w.heap.size w w3 := (hbt.alloc hbt.size _).grown hgrow3 (by have := hbt.size; simp; omega) (fun x hx => (hown.lt x hx).1)
        have HO3 : Hid (w3.ownsRow w.heap.size 9 1 v' (m + 1) (strV ((xs.take (k + 1)).filterMap F))) := Lib.hid (by rw [HST.out]; exact hown3)
        obtain ⟨g', c', rfl, _, _⟩ := World.ownsRow.form HO3.out (by omega)
        clear hown3 hown hgrow3
        go_wp2_with fail
        go_roundw
        case rel => exact ⟨k + 1, m + 1, c', some ⟨g', 0, none⟩, by omega, by go_num, rfl, Lib.hid (by omega), HO3, hb3⟩
        case measure => simp [intOf]; omega
    · have HE := Lib.hid (fm_all F xs k (by have := HN.out; omega))
      have hmk := HM.out
      rw [HE.out] at HO
      have CS := Lib.hid (tSortT B m d w.heap.size (xs.filterMap F) wr (by omega) HO.out)
      clear HE
      go_wp2_with fail
      refine CS.out.mono ?_
      rintro e w2 ⟨rfl, hown2, hg2⟩
      have hb2 := grown_own hbw hg2 (fun k hk => (HO.out.lt k hk).1)
      have CC := Lib.hid (tCompT B m d w.heap.size _ w2 (by omega) hown2)
      have HO2 := Lib.hid hown2
      clear hg2 hown2
      go_wp2_with fail
      refine CC.out.mono ?_
      rintro e w3 ⟨m3, rfl, hown3, hg3⟩
      have hb3 := grown_own hb2 hg3 (fun k hk => (HO2.out.lt k hk).1)
      rw [toL_ofL] at hown3
      have HO3 := Lib.hid hown3
      clear hg3 hown3
      go_wp2_with fail
      go_ret
      exact ⟨B, m3, d, rfl, HO3.out, hb3⟩

set_option maxHeartbeats 2000000 in
set_option maxRecDepth 100000 in
theorem cMadeB (A : Option Addr) (n c p : Nat) (xs : List En) (F : En → Option ByteArray) (w : World) (hbig : n ≤ 1048576) (h : EnAt w w.heap.size A n xs)
    (hF : ∀ W e, Below w.heap.size w W → e ∈ xs → Calls Try.prog 66 #[.agg #[.string e.1, .string e.2.1, .int .i64 e.2.2], .pointer (some ⟨p, 0, none⟩)] W fun e' w' => e' = .returned (optV (F e)) ∧ Below W.heap.size W w') :
    Calls Try.prog 39 #[.slice A n c, .func (.func 66) #[] #[.pointer (some ⟨p, 0, none⟩)]] w (MadeOut (xs.filterMap F) w) := by
  obtain ⟨i0, hi0, hz0, hz1, hz2⟩ := info_parts info_str
  have H := Lib.hid h
  have HN := Lib.hid h.1
  have HF := Lib.hid hF
  clear h hF
  go_enter Try.func39, Try.ntmps39
  go_wp2_with fail
  go_loopw [5, 12] (fun o i wr => ∃ (k m d : Nat) (B : Option Addr), k ≤ n ∧ i = .int .i64 k ∧ o = .slice B m d ∧ Hid (m ≤ k) ∧ Hid (wr.ownsRow w.heap.size 9 1 (.slice B m d) m (strV ((xs.take k).filterMap F))) ∧ Below w.heap.size w wr) (fun _ i _ => n - (intOf i).toNat)
  case atStart => exact ⟨0, 0, 0, none, Nat.zero_le _, rfl, rfl, Lib.hid (Nat.le_refl _), Lib.hid (World.ownsRow_nil _ _ _ _), Below.refl _ _⟩
  case round =>
    obtain ⟨k, m, d, B, hk, rfl, rfl, HM, HO, hbw⟩ := hrel
    by_cases hlt : k < n
    · obtain ⟨x, hx⟩ : ∃ x, xs[k]? = some x := ⟨xs[k]'(by have := HN.out; omega), List.getElem?_eq_getElem _⟩
      obtain ⟨b, o, rfl, hbl, c0, c1, c2⟩ := (H.out.below hbw (Nat.le_refl _)).row hx
      have hst := fm_take_step F xs k x hx
      have hb1 := hbw.alloc hbw.size (.cells #[.string x.1, .string x.2.1, .int .i64 x.2.2] 60)
      have HB := Lib.hid hb1
      have HST := Lib.hid hst
      have CF := Lib.hid (fun W (hW : Below w.heap.size w W) => HF.out W x hW (List.mem_of_getElem? hx))
      have HO1 := Lib.hid (HO.out.alloc (.cells #[.string x.1, .string x.2.1, .int .i64 x.2.2] 60))
      have u1 : (0 : Int) ≤ (k : Int) := Int.natCast_nonneg _
      have u2 : (k : Int) < (n : Int) := by omega
      clear hx hst hb1
      cases hf : F x with
      | none =>
        rw [hf] at CF HST
        dsimp only [optV] at CF
        rw [List.append_nil] at HST
        clear hf
        go_wp2_with fail
        refine (show Calls Try.prog 66 _ _ _ from CF.out _ HB.out).mono ?_
        rintro e w2 ⟨rfl, hb2⟩
        have hbt := bstep HB.out HB.out.size hb2
        have HO2 : Hid (w2.ownsRow w.heap.size 9 1 (.slice B m d) m (strV ((xs.take (k + 1)).filterMap F))) := Lib.hid (by
          rw [HST.out]
          exact HO1.out.kept ⟨hb2.os, hb2.tape, hb2.output, hb2.size, fun j hj _ => hb2.block j hj⟩ (row := none) (by
            rcases hh : (Value.slice B m d).ownBlock with _ | q
            · exact .inl rfl
            · exact .inr (fun e => by cases e)))
        clear hb2
        go_wp2_with fail
        go_roundw
        case rel => exact ⟨k + 1, m, d, B, by omega, by go_num, rfl, Lib.hid (by have := HM.out; omega), HO2, hbt⟩
        case measure => simp [intOf]; omega
      | some t =>
        rw [hf] at CF HST
        dsimp only [optV] at CF
        clear hf
        go_wp2_with fail
        refine (show Calls Try.prog 66 _ _ _ from CF.out _ HB.out).mono ?_
        rintro e w2 ⟨rfl, hb2⟩
        have hbt := bstep HB.out HB.out.size hb2
        have hown := HO1.out.kept ⟨hb2.os, hb2.tape, hb2.output, hb2.size, fun j hj _ => hb2.block j hj⟩ (row := none) (by
            rcases hh : (Value.slice B m d).ownBlock with _ | q
            · exact .inl rfl
            · exact .inr (fun e => by cases e))
        have hmk := HM.out
        clear hb2
        go_wp2_with (at_builtin; refine wpList_append_own _ rfl _ _ 27 rfl w.heap.size 9 i0 _ 1 16 Try.underlying27 hi0 hz0 hz1 hz2 rfl (by decide) _ _ _ rfl (hown.alloc _) ⟨w2.heap.size, 0, none⟩ 1 1 [.string t] rfl rfl ?d1 ?d2 ?d3 ?d4 ?d5 ?_)
        case d1 => exact one_cell' _ _ _ (new_one _ _ _)
        case d2 => intro u hu; simp at hu; subst hu; rfl
        case d3 => unfold maxLen; omega
        case d4 => omega
        case d5 => have := hbt.size; simp; omega
        intro v' w3 hown3 hgrow3 _
        rw [strV_snoc] at hown3
        have hb3 : Below w.heap.size w w3 := (hbt.alloc hbt.size _).grown hgrow3 (by have := hbt.size; simp; omega) (fun x hx => (hown.lt x hx).1)
        have HO3 : Hid (w3.ownsRow w.heap.size 9 1 v' (m + 1) (strV ((xs.take (k + 1)).filterMap F))) := Lib.hid (by rw [HST.out]; exact hown3)
        obtain ⟨g', c', rfl, _, _⟩ := World.ownsRow.form HO3.out (by omega)
        clear hown3 hown hgrow3
        go_wp2_with fail
        go_roundw
        case rel => exact ⟨k + 1, m + 1, c', some ⟨g', 0, none⟩, by omega, by go_num, rfl, Lib.hid (by omega), HO3, hb3⟩
        case measure => simp [intOf]; omega
    · have HE := Lib.hid (fm_all F xs k (by have := HN.out; omega))
      have hmk := HM.out
      rw [HE.out] at HO
      have CS := Lib.hid (tSortT B m d w.heap.size (xs.filterMap F) wr (by omega) HO.out)
      clear HE
      go_wp2_with fail
      refine CS.out.mono ?_
      rintro e w2 ⟨rfl, hown2, hg2⟩
      have hb2 := grown_own hbw hg2 (fun k hk => (HO.out.lt k hk).1)
      have CC := Lib.hid (tCompT B m d w.heap.size _ w2 (by omega) hown2)
      have HO2 := Lib.hid hown2
      clear hg2 hown2
      go_wp2_with fail
      refine CC.out.mono ?_
      rintro e w3 ⟨m3, rfl, hown3, hg3⟩
      have hb3 := grown_own hb2 hg3 (fun k hk => (HO2.out.lt k hk).1)
      rw [toL_ofL] at hown3
      have HO3 := Lib.hid hown3
      clear hg3 hown3
      go_wp2_with fail
      go_ret
      exact ⟨B, m3, d, rfl, HO3.out, hb3⟩

theorem cFormOf (word : ByteArray) (w : World) :
    Calls Try.prog 44 #[.string word] w fun e w' => e = .returned (.func (.func 68) #[] #[.pointer (some ⟨w.heap.size, 0, none⟩)]) ∧ w' = w.alloc (.cells #[.string word] 9) := by
  go_enter Try.func44, Try.ntmps44
  go_wp2
  go_ret
  exact ⟨rfl, rfl⟩
theorem cBaseOf (word : ByteArray) (w : World) :
    Calls Try.prog 40 #[.string word] w fun e w' => e = .returned (.func (.func 66) #[] #[.pointer (some ⟨w.heap.size + 1, 0, none⟩)]) ∧
      w'.cell? ⟨w.heap.size, 0, none⟩ = some (.string word) ∧ w'.cell? ⟨w.heap.size + 1, 0, none⟩ = some (.func (.func 68) #[] #[.pointer (some ⟨w.heap.size, 0, none⟩)]) ∧ w.heap.size + 1 < w'.heap.size ∧ Below w.heap.size w w' := by
  have e1 : (w.alloc (.cells #[.string word] 9)).heap.size = w.heap.size + 1 := by simp
  go_enter Try.func40, Try.ntmps40
  go_wp2_with fail
  refine (cFormOf word _).mono ?_
  rintro e w' ⟨rfl, rfl⟩
  go_wp2_with fail
  go_ret
  refine ⟨by simp, ?_, ?_, by simp, ((Below.refl _ _).alloc (Nat.le_refl _) _).alloc (by simp) _⟩
  · exact (World.cell?_alloc_lt _ _ ⟨w.heap.size, 0, none⟩ (by simp)).trans (by rw [World.cell?_alloc_at _ _ _ _ rfl]; rfl)
  · have h := new_one (w.alloc (.cells #[.string word] 9)) (Value.func (Fn.func 68) #[] #[.pointer (some ⟨w.heap.size, 0, none⟩)]) 54
    rw [e1] at h
    exact h

set_option maxHeartbeats 1000000 in
set_option maxRecDepth 100000 in
theorem tForms_impl (A : Option Addr) (n c : Nat) (xs : List En) (word : ByteArray) (w : World) (hbig : n ≤ 1048576) (hcap : n ≤ c) (hs : ∀ e ∈ xs, e.1.size ≤ 1048576 ∧ e.2.1.size ≤ 1048576) (hw : word.size ≤ 1048576) (h : EnAt w w.heap.size A n xs) :
    Calls Try.prog 13 #[.slice A n c, .string word] w (OutT (formsZ xs word) (fmC xs word) w) := by
  have CT := Lib.hid (tTabE_impl A n c xs w hbig hcap (fun e he => by have := hs e he; unfold maxLen; omega) h)
  have CW := Lib.hid (fun W => cIsWord_impl word W (by unfold maxLen; omega))
  have CM := Lib.hid (fun W (hW : Below w.heap.size w W) (hsz : w.heap.size ≤ W.heap.size) => cMadeF A n c W.heap.size xs (formO word) (W.alloc (.cells #[.string word] 9)) hbig ((h.grow hW).grow ((Below.refl _ _).alloc (Nat.le_refl _) _))
    (fun V e hV he => cFormFn word e W.heap.size V hw (hs e he).1 (hs e he).2 (Nat.lt_of_lt_of_le (by simp) hV.size) ((hV.cell (p := ⟨W.heap.size, 0, none⟩) (by simp)).trans (by rw [World.cell?_alloc_at _ _ _ _ rfl]; rfl))))
  clear h hs hcap
  cases hv : (tabE xs && wordB word)
  · rw [formsZ_bad hv, fmC_bad hv]
    cases ht : tabE xs
    · rw [ht] at CT
      clear hv ht
      go_enter Try.func13, Try.ntmps13
      go_wp2_with fail
      refine CT.out.mono ?_
      rintro e w1 ⟨rfl, hb1⟩
      go_wp2_with fail
      go_ret2
      exact ⟨none, 0, 0, rfl, World.ownsRow_nil _ _ _ _, hb1⟩
    · have hwf : wordB word = false := by rw [ht] at hv; simpa using hv
      rw [ht] at CT
      rw [hwf] at CW
      clear hv ht hwf
      go_enter Try.func13, Try.ntmps13
      go_wp2_with fail
      refine CT.out.mono ?_
      rintro e w1 ⟨rfl, hb1⟩
      go_wp2_with (go_at_call 38; refine (CW.out _).mono ?_; rintro e w' ⟨rfl, rfl⟩)
      go_ret2
      exact ⟨none, 0, 0, rfl, World.ownsRow_nil _ _ _ _, hb1⟩
  · rw [formsZ_ok hv, fmC_ok hv]
    rw [Bool.and_eq_true] at hv
    rw [hv.1] at CT
    rw [hv.2] at CW
    clear hv
    go_enter Try.func13, Try.ntmps13
    go_wp2_with fail
    refine CT.out.mono ?_
    rintro e w1 ⟨rfl, hb1⟩
    have CX := Lib.hid (CM.out w1 hb1 hb1.size)
    go_wp2_with (first
      | (go_at_call 38; refine (CW.out _).mono ?_; rintro e w' ⟨rfl, rfl⟩)
      | (go_at_call 44; refine (cFormOf word _).mono ?_; rintro e w' ⟨rfl, rfl⟩))
    refine CX.out.mono ?_
    rintro e w2 ⟨B, m, d, rfl, hown, hb2⟩
    have hbt := bstep (hb1.alloc hb1.size (.cells #[.string word] 9)) (by have := hb1.size; simp; omega) hb2
    have HO := Lib.hid (rowBase (b' := w.heap.size) hown (by have := hb1.size; simp; omega))
    clear hown hb2
    go_wp2_with fail
    go_ret2
    exact ⟨B, m, d, rfl, HO.out, hbt⟩

set_option maxHeartbeats 1000000 in
set_option maxRecDepth 100000 in
theorem tBases_impl (A : Option Addr) (n c : Nat) (xs : List En) (word : ByteArray) (w : World) (hbig : n ≤ 1048576) (hcap : n ≤ c) (hs : ∀ e ∈ xs, e.1.size ≤ 1048576 ∧ e.2.1.size ≤ 1048576) (hw : word.size ≤ 1048576) (h : EnAt w w.heap.size A n xs) :
    Calls Try.prog 11 #[.slice A n c, .string word] w (OutT (basesZ xs word) (fmC xs word) w) := by
  have CT := Lib.hid (tTabE_impl A n c xs w hbig hcap (fun e he => by have := hs e he; unfold maxLen; omega) h)
  have CW := Lib.hid (fun W => cIsWord_impl word W (by unfold maxLen; omega))
  have CM := Lib.hid (fun (W V : World) (hW : Below w.heap.size w W) (hV : Below W.heap.size W V) (h1 : V.cell? ⟨W.heap.size, 0, none⟩ = some (.string word)) (h2 : V.cell? ⟨W.heap.size + 1, 0, none⟩ = some (.func (.func 68) #[] #[.pointer (some ⟨W.heap.size, 0, none⟩)])) (h3 : W.heap.size + 1 < V.heap.size) =>
    cMadeB A n c (W.heap.size + 1) xs (baseO word) V hbig ((h.grow hW).grow hV)
      (fun U e hU he => cBaseFn word e W.heap.size (W.heap.size + 1) U hw (hs e he).1 (hs e he).2 (by have := hU.size; omega) ((hU.cell (p := ⟨W.heap.size, 0, none⟩) (by show W.heap.size < _; omega)).trans h1) (by have := hU.size; omega) ((hU.cell (p := ⟨W.heap.size + 1, 0, none⟩) h3).trans h2)))
  clear h hs hcap
  cases hv : (tabE xs && wordB word)
  · rw [basesZ_bad hv, fmC_bad hv]
    cases ht : tabE xs
    · rw [ht] at CT
      clear hv ht
      go_enter Try.func11, Try.ntmps11
      go_wp2_with fail
      refine CT.out.mono ?_
      rintro e w1 ⟨rfl, hb1⟩
      go_wp2_with fail
      go_ret2
      exact ⟨none, 0, 0, rfl, World.ownsRow_nil _ _ _ _, hb1⟩
    · have hwf : wordB word = false := by rw [ht] at hv; simpa using hv
      rw [ht] at CT
      rw [hwf] at CW
      clear hv ht hwf
      go_enter Try.func11, Try.ntmps11
      go_wp2_with fail
      refine CT.out.mono ?_
      rintro e w1 ⟨rfl, hb1⟩
      go_wp2_with (go_at_call 38; refine (CW.out _).mono ?_; rintro e w' ⟨rfl, rfl⟩)
      go_ret2
      exact ⟨none, 0, 0, rfl, World.ownsRow_nil _ _ _ _, hb1⟩
  · rw [basesZ_ok hv, fmC_ok hv]
    rw [Bool.and_eq_true] at hv
    rw [hv.1] at CT
    rw [hv.2] at CW
    clear hv
    go_enter Try.func11, Try.ntmps11
    go_wp2_with fail
    refine CT.out.mono ?_
    rintro e w1 ⟨rfl, hb1⟩
    go_wp2_with (go_at_call 38; refine (CW.out _).mono ?_; rintro e w' ⟨rfl, rfl⟩)
    refine (cBaseOf word _).mono ?_
    rintro e w2 ⟨rfl, k1, k2, k3, hb2⟩
    have CX := Lib.hid (CM.out w1 w2 hb1 hb2 k1 k2 k3)
    have hb12 := bstep hb1 hb1.size hb2
    clear k1 k2 k3 hb2
    go_wp2_with fail
    refine CX.out.mono ?_
    rintro e w3 ⟨B, m, d, rfl, hown, hb3⟩
    have hbt := bstep hb12 hb12.size hb3
    have HO := Lib.hid (rowBase (b' := w.heap.size) hown hb12.size)
    clear hown hb3
    go_wp2_with fail
    go_ret2
    exact ⟨B, m, d, rfl, HO.out, hbt⟩
end Go.Proofs.Ytippjomkbpiliaa
