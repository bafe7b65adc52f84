/-
  The contracts of impl.CasesOf and spec.CasesOf.
-/
import Derived.Test.YtippjomkbpiliaaFmS
import Derived.Test.YtippjomkbpiliaaIntRow
namespace Go.Proofs.Ytippjomkbpiliaa
set_option linter.unusedVariables false
open Go.RowKit

def hitB (base word : ByteArray) (e : En) : Bool := chB base e.1 e.2.1 && decide (chT base e.1 e.2.1 = word)
theorem hit_none {base word : ByteArray} {e : En} (h : formO base e = none) : hitB base word e = false := by
  unfold formO at h; unfold hitB
  cases hc : chB base e.1 e.2.1
  · rfl
  · rw [hc] at h; cases h
theorem hit_some {base word t : ByteArray} {e : En} (h : formO base e = some t) : hitB base word e = decide (t = word) := by
  unfold formO at h; unfold hitB
  cases hc : chB base e.1 e.2.1
  · rw [hc] at h; cases h
  · rw [hc] at h
    injection h with h
    rw [h]; rfl
def caseL (base word : ByteArray) (xs : List En) : List Int := (xs.filter (hitB base word)).map fun e => e.2.2
theorem caseL_no {base word : ByteArray} {xs : List En} {k : Nat} {x : En} (h : xs[k]? = some x) (hh : hitB base word x = false) : caseL base word (xs.take (k + 1)) = caseL base word (xs.take k) := by
  unfold caseL; rw [take_snocE h, List.filter_append]; simp [hh]
theorem caseL_yes {base word : ByteArray} {xs : List En} {k : Nat} {x : En} (h : xs[k]? = some x) (hh : hitB base word x = true) : caseL base word (xs.take (k + 1)) = caseL base word (xs.take k) ++ [x.2.2] := by
  unfold caseL; rw [take_snocE h, List.filter_append]; simp [hh]
theorem caseL_all (base word : ByteArray) (xs : List En) (k : Nat) (h : xs.length ≤ k) : caseL base word (xs.take k) = caseL base word xs := by rw [List.take_of_length_le h]
theorem caseL_len (base word : ByteArray) (xs : List En) : (caseL base word xs).length ≤ xs.length := by unfold caseL; rw [List.length_map]; exact List.length_filter_le _ _
def okC (xs : List En) (base word : ByteArray) : Bool := tabE xs && (wordB base && wordB word)
def csC (xs : List En) (base word : ByteArray) : Int := if okC xs base word then 0 else 1
def csZ (xs : List En) (base word : ByteArray) : List Int := if okC xs base word then setI (caseL base word xs) else []
theorem csC_bad {xs : List En} {base word : ByteArray} (h : okC xs base word = false) : csC xs base word = 1 := by unfold csC; rw [h]; rfl
theorem csC_ok {xs : List En} {base word : ByteArray} (h : okC xs base word = true) : csC xs base word = 0 := by unfold csC; rw [h]; rfl
theorem csZ_bad {xs : List En} {base word : ByteArray} (h : okC xs base word = false) : csZ xs base word = [] := by unfold csZ; rw [h]; rfl
theorem csZ_ok {xs : List En} {base word : ByteArray} (h : okC xs base word = true) : csZ xs base word = setI (caseL base word xs) := by unfold csZ; rw [h]; rfl
theorem csZ_len (xs : List En) (base word : ByteArray) : (csZ xs base word).length ≤ 16 := by
  unfold csZ
  split
  · rename_i h
    unfold okC at h
    rw [Bool.and_eq_true] at h
    exact Nat.le_trans (setI_len _) (Nat.le_trans (caseL_len _ _ _) (tabE_len xs h.1))
  · exact Nat.zero_le _
def OutI (zs : List Int) (code : Int) (w : World) (e : Ending) (w' : World) : Prop :=
  ∃ A n c, e = .returned (.tuple #[.slice A n c, .int .i64 code]) ∧ w'.ownsRow w.heap.size 2 1 (.slice A n c) n (intV zs) ∧ Below w.heap.size w w'
theorem kept_none {w w' : World} {lo s n : Nat} {t : TypeId} {v : Value} {xs : List Value} (h : w.ownsRow lo t s v n xs) (hb : Below w.heap.size w w') : w'.ownsRow lo t s v n xs :=
  h.kept ⟨hb.os, hb.tape, hb.output, hb.size, fun j hj _ => hb.block j hj⟩ (row := none) (by
    rcases hh : v.ownBlock with _ | q
    · exact .inl rfl
    · exact .inr (fun e => by cases e))

set_option maxHeartbeats 4000000 in
set_option maxRecDepth 100000 in
theorem tCases_impl (A : Option Addr) (n c : Nat) (xs : List En) (base word : ByteArray) (w : World) (hbig : n ≤ 1048576) (hcap : n ≤ c) (hs : ∀ e ∈ xs, e.1.size ≤ 1048576 ∧ e.2.1.size ≤ 1048576) (hw0 : base.size ≤ 1048576) (hw : word.size ≤ 1048576) (h : EnAt w w.heap.size A n xs) :
    Calls Try.prog 16 #[.slice A n c, .string base, .string word] w (OutI (csZ xs base word) (csC xs base word) w) := by
  obtain ⟨i0, hi0, hz0, hz1, hz2⟩ := info_parts info_i64
  have CT := Lib.hid (tTabE_impl A n c xs w hbig hcap (fun e he => by have := hs e he; unfold maxLen; omega) h)
  have CW := Lib.hid (fun W => cAreWords2 base word W (by unfold maxLen; omega) (by unfold maxLen; omega))
  have H := Lib.hid h
  have HN := Lib.hid h.1
  have HS := Lib.hid hs
  clear h hs hcap
  cases hv : okC xs base word
  · rw [csZ_bad hv, csC_bad hv]
    cases ht : tabE xs
    · rw [ht] at CT
      clear hv ht
      go_enter Try.func16, Try.ntmps16
      go_wp2_with fail
      refine CT.out.mono ?_
      rintro e w1 ⟨rfl, hb1⟩
      go_wp2_with fail
      go_ret2
      exact ⟨none, 0, 0, rfl, World.ownsRow_nil _ _ _ _, hb1⟩
    · have hwf : twoE base word = false := by unfold okC at hv; rw [ht] at hv; exact hv
      rw [ht] at CT
      rw [hwf] at CW
      clear hv ht hwf
      go_enter Try.func16, Try.ntmps16
      go_wp2_with fail
      refine CT.out.mono ?_
      rintro e w1 ⟨rfl, hb1⟩
      have hbt := hb1.alloc hb1.size (.cells #[.string base, .string word] 9)
      go_wp2_with (go_at_call 48; refine (CW.out _).mono ?_; rintro e w' ⟨rfl, rfl⟩)
      go_ret2
      exact ⟨none, 0, 0, rfl, World.ownsRow_nil _ _ _ _, hbt⟩
  rw [csZ_ok hv, csC_ok hv]
  have hwt : twoE base word = true := by unfold okC at hv; rw [Bool.and_eq_true] at hv; exact hv.2
  have htt : tabE xs = true := by unfold okC at hv; rw [Bool.and_eq_true] at hv; exact hv.1
  have HLN : Hid (n ≤ 16) := Lib.hid (by have := tabE_len xs htt; have := HN.out; omega)
  rw [htt] at CT
  rw [hwt] at CW
  clear hv hwt htt
  go_enter Try.func16, Try.ntmps16
  go_wp2_with fail
  refine CT.out.mono ?_
  rintro e w1 ⟨rfl, hb1⟩
  have hb2 := hb1.alloc hb1.size (.cells #[.string base, .string word] 9)
  obtain ⟨w2, hw2⟩ : ∃ w2, w2 = w1.alloc (.cells #[.string base, .string word] 9) := ⟨_, rfl⟩
  have CF := Lib.hid (cFormOf base w2)
  go_wp2_with (go_at_call 48; refine (CW.out _).mono ?_; rintro e w' ⟨rfl, rfl⟩)
  rw [← hw2] at hb2 ⊢
  clear hw2 hb1
  refine CF.out.mono ?_
  rintro e w3 ⟨rfl, hw3⟩
  have hb3 : Below w.heap.size w w3 := by rw [hw3]; exact hb2.alloc hb2.size _
  have HG : Hid (w2.heap.size < w3.heap.size ∧ w3.cell? ⟨w2.heap.size, 0, none⟩ = some (.string base)) := Lib.hid (by rw [hw3]; exact ⟨by simp, new_one _ _ _⟩)
  obtain ⟨g, hg⟩ : ∃ g, g = w2.heap.size := ⟨_, rfl⟩
  rw [← hg] at HG ⊢
  have HF := Lib.hid (fun W (e : En) (hW : Below w3.heap.size w3 W) (he : e ∈ xs) => cFormFn base e g W hw0 (HS.out e he).1 (HS.out e he).2 (Nat.lt_of_lt_of_le HG.out.1 hW.size) ((hW.cell (p := ⟨g, 0, none⟩) HG.out.1).trans HG.out.2))
  clear hw3 hb2 hg CF
  go_wp2_with fail
  go_loopw [8, 28] (fun o i wr => ∃ (k m d : Nat) (B : Option Addr), k ≤ n ∧ i = .int .i64 k ∧ o = .slice B m d ∧ Hid (m ≤ k) ∧ Hid (wr.ownsRow w3.heap.size 2 1 (.slice B m d) m (intV (caseL base word (xs.take k)))) ∧ Below w3.heap.size w3 wr) (fun _ i _ => n - (intOf i).toNat)
  case atStart => exact ⟨0, 0, 0, none, Nat.zero_le _, rfl, rfl, Lib.hid (Nat.le_refl _), Lib.hid (World.ownsRow_nil _ _ _ _), Below.refl _ _⟩
  case round =>
    obtain ⟨k, m, d, B, hk, rfl, rfl, HM, HO, hbr⟩ := hrel
    have hbw := hb3.trans (hbr.mono hb3.size)
    by_cases hlt : k < n
    · obtain ⟨x, hx⟩ : ∃ x, xs[k]? = some x := ⟨xs[k]'(by have := HN.out; omega), List.getElem?_eq_getElem _⟩
      obtain ⟨b, o, rfl, hbl, c0, c1, c2⟩ := (H.out.below hbw (Nat.le_refl _)).row hx
      have hb1 := hbr.alloc hbr.size (.cells #[.string x.1, .string x.2.1, .int .i64 x.2.2] 60)
      have HB := Lib.hid hb1
      have HW := Lib.hid (hbw.alloc hbw.size (.cells #[.string x.1, .string x.2.1, .int .i64 x.2.2] 60))
      have HNO := Lib.hid (fun hh => caseL_no (base := base) (word := word) hx hh)
      have HYES := Lib.hid (fun hh => caseL_yes (base := base) (word := word) hx hh)
      have CF := Lib.hid (fun W (hW : Below w3.heap.size w3 W) => HF.out W x hW (List.mem_of_getElem? hx))
      have HO1 := Lib.hid (HO.out.alloc (.cells #[.string x.1, .string x.2.1, .int .i64 x.2.2] 60))
      have KX : Hid (∀ W, Below (wr.alloc (.cells #[.string x.1, .string x.2.1, .int .i64 x.2.2] 60)).heap.size (wr.alloc (.cells #[.string x.1, .string x.2.1, .int .i64 x.2.2] 60)) W → W.cell? ⟨wr.heap.size, 2, none⟩ = some (.int .i64 x.2.2)) := Lib.hid (fun W hW => (hW.cell (p := ⟨wr.heap.size, 2, none⟩) (by simp)).trans (by rw [World.cell?_alloc_at _ _ _ _ rfl]; rfl))
      have u1 : (0 : Int) ≤ (k : Int) := Int.natCast_nonneg _
      have u2 : (k : Int) < (n : Int) := by omega
      clear hb1
      cases hf : formO base x with
      | none =>
        have HST := Lib.hid (HNO.out (hit_none hf))
        rw [hf] at CF
        dsimp only [optV] at CF
        clear hf hx HNO HYES
        go_wp2_with fail
        refine (show Calls Try.prog 68 _ _ _ from CF.out _ HB.out).mono ?_
        rintro e w4 ⟨rfl, hb4⟩
        have hbt := bstep HB.out HB.out.size hb4
        have HO2 : Hid (w4.ownsRow w3.heap.size 2 1 (.slice B m d) m (intV (caseL base word (xs.take (k + 1))))) := Lib.hid (by rw [HST.out]; exact kept_none HO1.out hb4)
        clear hb4
        go_wp2_with fail
        go_roundw
        case rel => exact ⟨k + 1, m, d, B, by omega, by go_num, rfl, Lib.hid (by have := HM.out; omega), HO2, hbt⟩
        case measure => simp [intOf]; omega
      | some t =>
        have hhit := hit_some (word := word) hf
        rw [hf] at CF
        dsimp only [optV] at CF
        clear hf hx
        have hq : (t.toList == word.toList) = decide (t = word) := toList_beq' t word
        by_cases he : t = word
        · rw [decide_eq_true he] at hhit hq
          have HST := Lib.hid (HYES.out hhit)
          clear he hhit HNO HYES
          go_wp2_with fail
          refine (show Calls Try.prog 68 _ _ _ from CF.out _ HB.out).mono ?_
          rintro e w4 ⟨rfl, hb4⟩
          have hbt := bstep HB.out HB.out.size hb4
          have hbW := bstep HW.out HW.out.size hb4
          have hown := kept_none HO1.out hb4
          have cx := KX.out w4 hb4
          have hmk := HM.out
          clear hb4
          go_wp2_with (at_builtin; refine wpList_append_own _ rfl _ _ 32 rfl w3.heap.size 2 i0 _ 1 8 Try.underlying32 hi0 hz0 hz1 hz2 rfl (by decide) _ _ _ rfl (hown.alloc _) ⟨w4.heap.size, 0, none⟩ 1 1 [.int .i64 x.2.2] rfl rfl ?d1 ?d2 ?d3 ?d4 ?d5 ?_)
          case d1 => exact one_cell' _ _ _ (new_one _ _ _)
          case d2 => intro u hu; simp at hu; subst hu; rfl
          case d3 => unfold maxLen; omega
          case d4 => omega
          case d5 => have := hbt.size; simp; omega
          intro v' w5 hown3 hgrow3 _
          rw [intV_snoc] at hown3
          have hlow : w3.heap.size ≤ w4.heap.size := hbt.size
          have hb5 : Below w3.heap.size w3 w5 := by
            exact (hbt.alloc hbt.size _).grown hgrow3 (by simp; omega) (fun x hx => (hown.lt x hx).1)
          have HO3 : Hid (w5.ownsRow w3.heap.size 2 1 v' (m + 1) (intV (caseL base word (xs.take (k + 1))))) := Lib.hid (by rw [HST.out]; exact hown3)
          obtain ⟨g', c', rfl, _, _⟩ := World.ownsRow.form HO3.out (by omega)
          clear hown3 hown hgrow3
          go_wp2_with fail
          go_roundw
          case rel => exact ⟨k + 1, m + 1, c', some ⟨g', 0, none⟩, by omega, by go_num, rfl, Lib.hid (by omega), HO3, hb5⟩
          case measure => simp [intOf]; omega
        · rw [decide_eq_false he] at hhit hq
          have HST := Lib.hid (HNO.out hhit)
          clear he hhit HNO HYES
          go_wp2_with fail
          refine (show Calls Try.prog 68 _ _ _ from CF.out _ HB.out).mono ?_
          rintro e w4 ⟨rfl, hb4⟩
          have hbt := bstep HB.out HB.out.size hb4
          have HO2 : Hid (w4.ownsRow w3.heap.size 2 1 (.slice B m d) m (intV (caseL base word (xs.take (k + 1))))) := Lib.hid (by rw [HST.out]; exact kept_none HO1.out hb4)
          clear hb4
          go_wp2_with fail
          go_roundw
          case rel => exact ⟨k + 1, m, d, B, by omega, by go_num, rfl, Lib.hid (by have := HM.out; omega), HO2, hbt⟩
          case measure => simp [intOf]; omega
    · have HE := Lib.hid (caseL_all base word xs k (by have := HN.out; omega))
      have hmk := HM.out
      rw [HE.out] at HO
      have CS := Lib.hid (tSortI B m d w3.heap.size (caseL base word xs) wr (by omega) HO.out)
      clear HE
      go_wp2_with fail
      refine CS.out.mono ?_
      rintro e w4 ⟨rfl, hown2, hg2⟩
      have hb4 := grown_own hbw hg2 (fun k hk => Nat.le_trans hb3.size (HO.out.lt k hk).1)
      have CC := Lib.hid (tCompI B m d w3.heap.size _ w4 (by omega) hown2)
      have HO2 := Lib.hid hown2
      clear hg2 hown2
      go_wp2_with fail
      refine CC.out.mono ?_
      rintro e w5 ⟨m3, rfl, hown3, hg3⟩
      have hb5 := grown_own hb4 hg3 (fun k hk => Nat.le_trans hb3.size (HO2.out.lt k hk).1)
      have HO3 := Lib.hid (rowBase (b' := w.heap.size) hown3 hb3.size)
      clear hg3 hown3
      go_wp2_with fail
      go_ret2
      exact ⟨B, m3, d, rfl, HO3.out, hb5⟩
end Go.Proofs.Ytippjomkbpiliaa
