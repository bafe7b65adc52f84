/-
  The contracts of PhraseSound, of the program and of the reference.
-/
import Derived.Test.YtmbahbnadkmnkaaDoorSndC
import Derived.Test.YtmbahbnadkmnkaaDoorIsPhrase
import Derived.Test.YtmbahbnadkmnkaaDoorBlank
import Derived.Test.YtmbahbnadkmnkaaDoorSplitLib
namespace Go.Proofs.YtmbahbnadkmnkaaDoor
set_option linter.unusedVariables false
open Go.RowKit

def phsT (xs : List Int) (s : ByteArray) : Bool := tabB xs && phraseB s
def phsL (xs : List Int) (s : ByteArray) : List ByteArray := (spaceB s).map (sndB xs)
def phsZ (xs : List Int) (s : ByteArray) : ByteArray := if phsT xs s then joinB (phsL xs s) else ByteArray.empty
def phsC (xs : List Int) (s : ByteArray) : Int := if phsT xs s then 0 else 1
theorem phs_no {xs : List Int} {s : ByteArray} (h : phsT xs s = false) : phsZ xs s = ByteArray.empty ∧ phsC xs s = 1 := by unfold phsZ phsC; rw [h]; exact ⟨rfl, rfl⟩
theorem phs_yes {xs : List Int} {s : ByteArray} (h : phsT xs s = true) : phsZ xs s = joinB (phsL xs s) ∧ phsC xs s = 0 := by unfold phsZ phsC; rw [h]; exact ⟨rfl, rfl⟩
theorem phraseB_words {s : ByteArray} (h : phraseB s = true) : wordsB (spaceB s) = true ∧ (spaceB s).length ≤ 8 := by unfold phraseB at h; rw [Bool.and_eq_true, decide_eq_true_eq] at h; exact h
theorem phsL_len (xs : List Int) (s : ByteArray) : (phsL xs s).length = (spaceB s).length := by unfold phsL; exact List.length_map ..
theorem phsL_at {xs : List Int} {s x : ByteArray} {k : Nat} (h : (spaceB s)[k]? = some x) : (phsL xs s)[k]? = some (sndB xs x) := by unfold phsL; rw [List.getElem?_map, h]; rfl
theorem phsL_sz {xs : List Int} {s : ByteArray} (h : phraseB s = true) : ∀ y ∈ phsL xs s, y.size = 4 := by
  intro y hy
  unfold phsL at hy
  rw [List.mem_map] at hy
  obtain ⟨x, hx, rfl⟩ := hy
  exact sndB_word xs x (wordsB_mem (phraseB_words h).1 hx)
theorem TabAt.other {w : World} {g : Nat} {t : TypeId} {cs : Array Value} (h : TabAt w g t cs) {a : Addr} (ha : g ≠ a.block) (v : Value) : TabAt (w.setCell a v) g t cs := (Below.heap_setCell _ _ _ _ ha).trans h
/-- The first k texts are those of ys, the others those of ls. -/
def mixL (ys ls : List ByteArray) (k : Nat) : List ByteArray := ys.take k ++ ls.drop k
theorem mixL_zero (ys ls : List ByteArray) : mixL ys ls 0 = ls := by simp [mixL]
theorem mixL_all (ys ls : List ByteArray) (n : Nat) (h1 : ls.length = n) (h2 : ys.length = n) : mixL ys ls n = ys := by
  unfold mixL; rw [List.take_of_length_le (by omega), List.drop_of_length_le (by omega), List.append_nil]
theorem mixL_at {ys ls : List ByteArray} {k : Nat} {x : ByteArray} (hl : ys.length = ls.length) (h : ls[k]? = some x) : (mixL ys ls k)[k]? = some x := by
  have hk := (List.getElem?_eq_some_iff.1 h).1
  unfold mixL
  rw [List.getElem?_append_right (by rw [List.length_take]; omega), List.length_take, List.getElem?_drop]
  rw [show k + (k - min k ys.length) = k by omega]; exact h
theorem mixL_set {ys ls : List ByteArray} {k : Nat} {y : ByteArray} (hl : ys.length = ls.length) (h : ys[k]? = some y) : (strV (mixL ys ls k)).set k (.string y) = strV (mixL ys ls (k + 1)) := by
  have hk := (List.getElem?_eq_some_iff.1 h).1
  have he : ys[k] = y := (List.getElem?_eq_some_iff.1 h).2
  unfold mixL strV
  rw [List.map_append, List.set_append_right _ _ (by rw [List.length_map, List.length_take]; omega), List.length_map, List.length_take, show k - min k ys.length = 0 by omega, List.drop_eq_getElem_cons (by omega), List.map_cons, List.set_cons_zero, List.take_succ_eq_append_getElem hk, he, List.map_append, List.map_append, List.append_assoc]
  rfl

set_option maxHeartbeats 2000000 in
set_option maxRecDepth 100000 in
theorem cPhS_impl (A : Option Addr) (n c : Nat) (xs : List Int) (s : ByteArray) (w : World) (hb : n ≤ maxLen) (hs : s.size ≤ 1048576) (h : NumAt w w.heap.size A n xs) (hsh : w.ShapedOpen Tryd.prog) :
    Calls Tryd.prog 6 #[.slice A n c, .string s] w fun e w' => e = .returned (.tuple #[.string (phsZ xs s), .int .i64 (phsC xs s)]) ∧ Below w.heap.size w w' := by
  have CT := Lib.hid (cTabOf A n c xs w hb h)
  have HSH : Hid (∀ W, Below w.heap.size w W → W.ShapedOpen Tryd.prog) := Lib.hid (fun W hW => shaped_below hsh hW)
  have CP := Lib.hid (fun W hW => cIsPhrase_impl s W (by omega) (HSH.out W hW))
  have HSZ := Lib.hid (tabC_size xs)
  have HCL := Lib.hid (tabC_cells xs)
  have hz := zero26
  have hne := zs26_ne
  unfold TabOut at CT
  clear h hsh
  cases ht : tabB xs
  · obtain ⟨z1, z2⟩ := phs_no (s := s) (show phsT xs s = false by unfold phsT; rw [ht]; rfl)
    rw [z1, z2]
    rw [ht] at CT
    obtain ⟨cs, hcs⟩ : ∃ cs, cs = tabC xs := ⟨_, rfl⟩
    rw [← hcs] at CT HSZ HCL
    clear ht z1 z2 hcs
    go_enter Tryd.func6, Tryd.ntmps6
    go_wp2_with fail
    refine CT.out.mono ?_
    rintro e w1 ⟨rfl, hb1⟩
    have HB1 := Lib.hid hb1
    have T1 := Lib.hid (TabAt.new w1 35 zs26)
    have HB3 := Lib.hid (below_setRow (HB1.out.alloc HB1.out.size (.cells zs26 35)) HB1.out.size cs)
    clear hb1
    go_wp2_with (refine wpList_store_row rfl _ _ _ rfl w1.heap.size _ rfl rfl 35 _ T1.out (size26.trans (by rw [HSZ.out])) (by rw [zs26_size, HSZ.out]) HCL.out ?_)
    go_ret2
    exact ⟨rfl, HB3.out⟩
  have HTC := Lib.hid (tabC_yes ht)
  have CW := Lib.hid (fun x W hx => cSoundOfI xs x W ht hx)
  rw [ht] at CT
  rw [HTC.out] at CT HSZ HCL
  obtain ⟨cs, hcs⟩ : ∃ cs, cs = agC xs := ⟨_, rfl⟩
  rw [← hcs] at CT HSZ HCL CW
  cases hp : phraseB s
  · obtain ⟨z1, z2⟩ := phs_no (show phsT xs s = false by unfold phsT; rw [ht, hp]; rfl)
    rw [z1, z2]
    rw [hp] at CP
    clear ht z1 z2 hcs HTC CW hp
    go_enter Tryd.func6, Tryd.ntmps6
    go_wp2_with fail
    refine CT.out.mono ?_
    rintro e w1 ⟨rfl, hb1⟩
    have HB1 := Lib.hid hb1
    have T1 := Lib.hid (TabAt.new w1 35 zs26)
    have HB3 := Lib.hid (below_setRow (HB1.out.alloc HB1.out.size (.cells zs26 35)) HB1.out.size cs)
    clear hb1
    go_wp2_with (first
      | (refine wpList_store_row rfl _ _ _ rfl w1.heap.size _ rfl rfl 35 _ T1.out (size26.trans (by rw [HSZ.out])) (by rw [zs26_size, HSZ.out]) HCL.out ?_)
      | (go_at_call 13; refine (CP.out _ HB3.out).mono ?_; rintro e w2 ⟨rfl, hb2⟩))
    go_ret2
    exact ⟨rfl, HB3.out.trans (hb2.mono HB3.out.size)⟩
  obtain ⟨z1, z2⟩ := phs_yes (show phsT xs s = true by unfold phsT; rw [ht, hp]; rfl)
  rw [z1, z2]
  rw [hp] at CP
  have hwp := phraseB_words hp
  have HWD := Lib.hid (fun x (hx : x ∈ spaceB s) => wordsB_mem hwp.1 hx)
  have hsc := space_count s
  have hpos := bl_pos 32 s
  have HYS := Lib.hid (phsL_sz (xs := xs) hp)
  have HYL := Lib.hid (phsL_len xs s)
  have HYA := Lib.hid (fun k x => phsL_at (xs := xs) (s := s) (x := x) (k := k))
  obtain ⟨ls, hls⟩ : ∃ ls, ls = spaceB s := ⟨_, rfl⟩
  obtain ⟨ys, hys⟩ : ∃ ys, ys = phsL xs s := ⟨_, rfl⟩
  rw [← hls] at hwp HWD hsc HYL HYA
  rw [← hys] at HYS HYL HYA ⊢
  have hln8 := hwp.2
  have hln1 : 0 < ls.length := by rw [hls]; exact hpos
  have CSP : Hid (∀ W, Below w.heap.size w W → Calls Tryd.prog 14 #[.string s, .string ⟨#[32]⟩] W fun e w' => e = .returned (.slice (some ⟨W.heap.size, 0, none⟩) ls.length ls.length) ∧ w' = W.alloc (.cells (strV ls).toArray 9)) := Lib.hid (fun W hW => by
    have := Tryd.strings_Split_shaped s (sepB 32) W (HSH.out W hW) (by omega) (by decide)
    rw [hsc.1, ← hsc.2] at this
    exact this)
  obtain ⟨N, hN⟩ : ∃ N, N = ls.length := ⟨_, rfl⟩
  have HJ : Hid (∀ bk W, (∀ (j : Nat) x, ys[j]? = some x → W.cell? ⟨bk, 0 + j, none⟩ = some (.string x)) → bk < W.heap.size → Calls Tryd.prog 16 #[.slice (some ⟨bk, 0, none⟩) N N, .string ⟨#[32]⟩] W fun e w' => e = .returned (.string (joinB ys)) ∧ Below W.heap.size W w') := Lib.hid (fun bk W hc hbk => by
    have h4 := HYS.out
    have := Tryd.strings_Join bk 0 N ys (sepB 32) W hc hbk (by rw [HYL.out]; omega) (by rw [HYL.out, hN]; exact Nat.le_refl _) (join_small ys (fun y hy => by have := h4 y hy; omega) (by rw [HYL.out]; exact hln8))
    rw [HYL.out, ← hN] at this
    exact this)
  rw [← hN] at hln8 hln1 CSP
  have HN := Lib.hid hN
  clear ht z1 z2 hcs HTC hp hwp hsc hpos hls hys hN
  go_enter Tryd.func6, Tryd.ntmps6
  go_wp2_with fail
  refine CT.out.mono ?_
  rintro e w1 ⟨rfl, hb1⟩
  have HB1 := Lib.hid hb1
  have T1 := Lib.hid (TabAt.new w1 35 zs26)
  have HB3 := Lib.hid (below_setRow (HB1.out.alloc HB1.out.size (.cells zs26 35)) HB1.out.size cs)
  have T2 : Hid (TabAt ((w1.alloc (.cells zs26 35)).setRow w1.heap.size cs) w1.heap.size 35 cs) := Lib.hid (TabAt.setSame T1.out)
  have HS2 : Hid (w1.heap.size + 1 ≤ ((w1.alloc (.cells zs26 35)).setRow w1.heap.size cs).heap.size) := Lib.hid (by have := T2.out.lt; omega)
  clear hb1
  go_wp2_with (first
    | (refine wpList_store_row rfl _ _ _ rfl w1.heap.size _ rfl rfl 35 _ T1.out (size26.trans (by rw [HSZ.out])) (by rw [zs26_size, HSZ.out]) HCL.out ?_)
    | (go_at_call 13; refine (CP.out _ HB3.out).mono ?_; rintro e w2 ⟨rfl, hb2⟩; have HB4 := Lib.hid (HB3.out.trans (hb2.mono HB3.out.size)); have T3 := Lib.hid (T2.out.below hb2 (by have := HS2.out; omega)); have HS3 := Lib.hid (Nat.le_trans HS2.out hb2.size); clear hb2)
    | (go_at_call 14; refine (CSP.out _ HB4.out).mono ?_; rintro e w3 ⟨rfl, rfl⟩))
  obtain ⟨w3, hw3⟩ : ∃ w3, w3 = w2.alloc (.cells (strV ls).toArray 9) := ⟨_, rfl⟩
  rw [← hw3]
  have hO : w3.ownsRow w2.heap.size 9 1 (.slice (some ⟨w2.heap.size, 0, none⟩) N N) N (strV (mixL ys ls 0)) := by
    rw [hw3, mixL_zero]
    have := World.ownsRow_lit (e := 9) (base := w2.heap.size) (size := 1) w2 (strV ls).toArray N (Nat.le_refl _) (by unfold maxLen; omega) (by rw [List.size_toArray, strV_len, HN.out, Nat.mul_one])
    simpa using this
  have hB5 : Below w.heap.size w w3 := by rw [hw3]; exact HB4.out.alloc HB4.out.size _
  have hT4 : TabAt w3 w1.heap.size 35 cs := by rw [hw3]; exact T3.out.alloc _
  have HO0 := Lib.hid hO
  have HB0 := Lib.hid hB5
  have HT0 := Lib.hid hT4
  have HW : Hid (w1.heap.size < w2.heap.size) := Lib.hid (by have := HS3.out; omega)
  have HW2 : Hid (w.heap.size ≤ w2.heap.size) := Lib.hid HB4.out.size
  clear hO hB5 hT4 hw3 T3 HS3 HB4 HB3 T2 HS2 HB1 T1 hz hne
  go_loopw [9, 10, 27] (fun p q i wr => ∃ (k : Nat) (p1 q1 : Value), p1 = p ∧ q1 = q ∧ k ≤ N ∧ i = .int .i64 k ∧ Hid (wr.ownsRow w2.heap.size 9 1 (.slice (some ⟨w2.heap.size, 0, none⟩) N N) N (strV (mixL ys ls k))) ∧ Hid (TabAt wr w1.heap.size 35 cs) ∧ Hid (Below w.heap.size w wr)) (fun _ _ i _ => N - (intOf i).toNat)
  case atStart => exact ⟨0, _, _, rfl, rfl, Nat.zero_le _, rfl, HO0, HT0, HB0⟩
  case round =>
    clear HO0 HT0 HB0
    obtain ⟨k, p, q, rfl, rfl, hk, rfl, HO, HT, HB⟩ := hrel
    by_cases hlt : k < N
    · obtain ⟨x, hx⟩ : ∃ x, ls[k]? = some x := ⟨ls[k]'(by have := HN.out; omega), List.getElem?_eq_getElem _⟩
      have hcx : wr.cell? ⟨w2.heap.size, k, none⟩ = some (.string x) := (HO.out.cellAt k (by omega)).trans (strV_at _ _ _ (mixL_at HYL.out hx))
      have CX := Lib.hid (fun W => CW.out x W (HWD.out x (List.mem_of_getElem? hx)))
      have HYK := Lib.hid (HYA.out k x hx)
      obtain ⟨y, hy⟩ : ∃ y, y = sndB xs x := ⟨_, rfl⟩
      rw [← hy] at CX HYK
      clear hx hy
      go_wp2_with (first
        | (refine wpList_load_row rfl _ _ rfl w1.heap.size rfl 35 _ (0, 0) _ HT.out Tryd.underlying35 rfl (size26.trans (by rw [HSZ.out])) ?_)
        | (go_at_call 15; refine (CX.out _).mono ?_; rintro e w4 ⟨rfl, hb4⟩; have hO4 := Lib.hid (ownsRow_keep HO.out hb4); have hT4 := Lib.hid (HT.out.below hb4 (by have := HT.out.lt; omega)); have hB4 := Lib.hid (HB.out.trans (hb4.mono HB.out.size)); clear hb4; have f0 := hO4.out.frozenAt k; have c0 := hO4.out.cellAt k (by omega); obtain ⟨v0, d0⟩ : ∃ v, w4.cell? ⟨w2.heap.size, k, none⟩ = some v := ⟨_, c0.trans (List.getElem?_eq_getElem (by have := hO4.out.1; omega))⟩; clear c0))
      have hst := (hO4.out.stored k (.string y)).1
      rw [mixL_set HYL.out HYK.out] at hst
      have hT5 : TabAt (w4.setCell ⟨w2.heap.size, k, none⟩ (.string y)) w1.heap.size 35 cs := TabAt.other hT4.out (by show w1.heap.size ≠ w2.heap.size; have := HW.out; omega) _
      have hB5 : Below w.heap.size w (w4.setCell ⟨w2.heap.size, k, none⟩ (.string y)) := hB4.out.setCell HW2.out _
      have HST := Lib.hid hst
      have HT5 := Lib.hid hT5
      have HB5 := Lib.hid hB5
      clear hst hT5 hB5
      go_roundw
      case rel => exact ⟨k + 1, _, _, rfl, rfl, by omega, by go_num, HST, HT5, HB5⟩
      case measure => simp [intOf]; omega
    · obtain rfl : k = N := by omega
      have hmx := mixL_all ys ls k HN.out.symm (by rw [HYL.out, HN.out])
      have hO2 := HO.out
      rw [hmx] at hO2
      have CJ := Lib.hid (HJ.out w2.heap.size wr (fun j x hx => by rw [Nat.zero_add]; exact (hO2.cellAt j (by have := (List.getElem?_eq_some_iff.1 hx).1; have := HYL.out; have := HN.out; omega)).trans (strV_at _ _ _ hx)) (hO2.lt _ rfl).2)
      clear hmx hO2
      go_wp2_with (go_at_call 16; refine CJ.out.mono ?_; rintro e w6 ⟨rfl, hb6⟩)
      go_ret2
      exact ⟨rfl, HB.out.trans (hb6.mono HB.out.size)⟩
end Go.Proofs.YtmbahbnadkmnkaaDoor
