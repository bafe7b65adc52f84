/-
  The contract of the reference's PhraseSound.
-/
import Derived.Test.YtmbahbnadkmnkaaDoorPhS
namespace Go.Proofs.YtmbahbnadkmnkaaDoor
set_option linter.unusedVariables false
open Go.RowKit

set_option maxHeartbeats 2000000 in
set_option maxRecDepth 100000 in
theorem cPhS_spec (A : Option Addr) (n c : Nat) (xs : List Int) (s : ByteArray) (w : World) (hb : n ≤ maxLen) (hs : s.size ≤ 1048576) (h : NumAt w w.heap.size A n xs) :
    Calls Tryd.prog 4 #[.slice A n c, .string s] w fun e w' => e = .returned (.tuple #[.string (phsZ xs s), .int .i64 (phsC xs s)]) ∧ Below w.heap.size w w' := by
  obtain ⟨i0, hi0, hz0, hz1, hz2⟩ := info_parts info_str
  have HN : Hid (∀ W, Below w.heap.size w W → NumAt W W.heap.size A n xs) := Lib.hid (fun W hW => (h.below hW (Nat.le_refl _)).more hW.size)
  have CT := Lib.hid (fun W hW => cIsTabS A n c _ xs W hb (HN.out W hW))
  clear h
  cases hw : wordsB (spaceB s)
  · have CP := Lib.hid (cPhrase_bad s w (by omega) hw)
    obtain ⟨z1, z2⟩ := phs_no (xs := xs) (show phsT xs s = false by unfold phsT phraseB; rw [hw]; simp)
    rw [z1, z2]
    clear z1 z2 hw
    cases ht : tabB xs
    all_goals
      rw [ht] at CT
      clear ht
      go_enter Tryd.func4, Tryd.ntmps4
      go_wp2_with fail
      refine CP.out.mono ?_
      rintro e w1 ⟨rfl, hb1⟩
      go_wp2_with fail
      refine (CT.out w1 hb1).mono ?_
      rintro e w' ⟨rfl, rfl⟩
      go_wp2_with fail
      go_ret2
      exact ⟨rfl, hb1⟩
  have CP := Lib.hid (cPhrase_ok s w (by omega) hw)
  by_cases hok : tabB xs = true ∧ (spaceB s).length ≤ 8
  · obtain ⟨ht, h8⟩ := hok
    have hp : phraseB s = true := by unfold phraseB; rw [hw, decide_eq_true h8]; rfl
    obtain ⟨z1, z2⟩ := phs_yes (show phsT xs s = true by unfold phsT; rw [ht, hp]; rfl)
    rw [z1, z2]
    have CW := Lib.hid (fun x W hW hx => cSoundS A n c _ xs x W (HN.out W hW) (Nat.le_refl _) ht hx)
    rw [ht] at CT
    have HWD := Lib.hid (fun x (hx : x ∈ spaceB s) => wordsB_mem hw hx)
    have hpos := bl_pos 32 s
    have HYS := Lib.hid (phsL_sz (xs := xs) hp)
    have HYL := Lib.hid (phsL_len xs s)
    have HYA := Lib.hid (fun k x => phsL_at (xs := xs) (s := s) (x := x) (k := k))
    rw [decide_eq_true h8] at CP
    obtain ⟨ls, hls⟩ : ∃ ls, ls = spaceB s := ⟨_, rfl⟩
    obtain ⟨ys, hys⟩ : ∃ ys, ys = phsL xs s := ⟨_, rfl⟩
    rw [← hls] at HWD HYL HYA h8 CP
    rw [← hys] at HYS HYL HYA ⊢
    have hln1 : 0 < ls.length := by rw [hls]; exact hpos
    obtain ⟨N, hN⟩ : ∃ N, N = ls.length := ⟨_, rfl⟩
    rw [← hN] at hln1 h8 CP
    have HLN := Lib.hid hN
    have CJ : Hid (∀ g cap W, (∀ (j : Nat) x, ys[j]? = some x → W.cell? ⟨g, 0 + j, none⟩ = some (.string x)) → Calls Tryd.prog 11 #[.slice (some ⟨g, 0, none⟩) N cap] W fun e w' => e = .returned (.string (joinB ys)) ∧ W = w') := Lib.hid (fun g cap W hc => cWords g 0 cap N ys W (by rw [HYL.out]; exact hN) (by omega) (fun x hx => by have := HYS.out x hx; omega) hc)
    clear ht hp hw z1 z2 hpos hls hys hN
    go_enter Tryd.func4, Tryd.ntmps4
    go_wp2_with fail
    refine CP.out.mono ?_
    rintro e w1 ⟨v, rfl, hO1, hb1⟩
    obtain ⟨g, cap, rfl, _, _⟩ := hO1.form hln1
    have HO1 := Lib.hid hO1
    have HB1 := Lib.hid hb1
    have CT1 := Lib.hid (CT.out w1 hb1)
    clear hO1 hb1 CP CT
    go_wp2_with fail
    refine CT1.out.mono ?_
    rintro e w' ⟨rfl, rfl⟩
    go_wp2_with fail
    go_loopw [8, 9] (fun ov i wr => ∃ (k : Nat) (v1 : Value), v1 = ov ∧ k ≤ N ∧ i = .int .i64 k ∧ Hid (wr.ownsRow w1.heap.size 9 1 v1 k (strV (ys.take k))) ∧ Hid (Below w1.heap.size w1 wr)) (fun _ i _ => N - (intOf i).toNat)
    case atStart => exact ⟨0, _, rfl, Nat.zero_le _, rfl, Lib.hid (World.ownsRow_lit (e := 9) (base := w1.heap.size) (size := 1) w1 #[] 0 (Nat.le_refl _) (by decide) rfl), Lib.hid ((Below.refl _ _).alloc (Nat.le_refl _) _)⟩
    case round =>
      obtain ⟨k, v, rfl, hk, rfl, HO, HB⟩ := hrel
      by_cases hlt : k < N
      · obtain ⟨x, hx⟩ : ∃ x, ls[k]? = some x := ⟨ls[k]'(by have := HLN.out; omega), List.getElem?_eq_getElem _⟩
        have HOr := Lib.hid (ownsRow_keep HO1.out HB.out)
        have hcx : wr.cell? ⟨g, k, none⟩ = some (.string x) := (HOr.out.cellAt k (by omega)).trans (strV_at _ _ _ hx)
        have HBw := Lib.hid (HB1.out.trans (HB.out.mono HB1.out.size))
        have CX := Lib.hid (CW.out x wr HBw.out (HWD.out x (List.mem_of_getElem? hx)))
        have HYK := Lib.hid (HYA.out k x hx)
        obtain ⟨y, hy⟩ : ∃ y, y = sndB xs x := ⟨_, rfl⟩
        rw [← hy] at CX HYK
        have HTK : Hid (ys.take k ++ [y] = ys.take (k + 1)) := Lib.hid (by
          have h1 := (List.getElem?_eq_some_iff.1 HYK.out).1
          have h2 : ys[k] = y := (List.getElem?_eq_some_iff.1 HYK.out).2
          rw [List.take_succ_eq_append_getElem h1, h2])
        clear hx hy HYK
        go_wp2_with (first
          | (go_at_call 10; refine CX.out.mono ?_; rintro e w4 ⟨rfl, hb4⟩; have hO4 := Lib.hid (ownsRow_keep HO.out hb4); have hB4 := Lib.hid (HB.out.trans (hb4.mono HB.out.size)); clear hb4)
          | (at_builtin; refine wpList_append_own _ rfl _ _ 28 rfl w1.heap.size 9 i0 _ 1 16 Tryd.underlying28 hi0 hz0 hz1 hz2 rfl (by decide) _ _ _ rfl (World.ownsRow.alloc (w := w4) hO4.out _) ⟨w4.heap.size, 0, none⟩ 1 1 [.string y] rfl rfl ?c1 ?c2 ?c3 ?c4 ?c5 ?_))
        case c1 => exact one_cell' _ _ _ (new_one w4 _ _)
        case c2 => intro u hu; simp at hu; subst hu; rfl
        case c3 => unfold maxLen; omega
        case c4 => omega
        case c5 => have := hB4.out.size; simp; omega
        intro v' w9 hown9 hgrow9 _
        rw [strV_snoc, HTK.out] at hown9
        have HO9 := Lib.hid hown9
        have HB9 : Hid (Below w1.heap.size w1 w9) := Lib.hid ((hB4.out.alloc hB4.out.size _).grown hgrow9 (by have := hB4.out.size; simp; omega) (fun x hx => (hO4.out.lt x hx).1))
        clear hown9 hgrow9
        go_wp2_with fail
        go_roundw
        case rel => exact ⟨k + 1, v', rfl, by omega, by go_num, HO9, HB9⟩
        case measure => simp [intOf]; omega
      · obtain rfl : k = N := by omega
        have hO2 := HO.out
        rw [List.take_of_length_le (by rw [HYL.out, HLN.out]; exact Nat.le_refl _)] at hO2
        obtain ⟨g2, cap2, rfl, _, _⟩ := hO2.form hln1
        have CJ2 := Lib.hid (CJ.out g2 cap2 wr (fun j x hx => by rw [Nat.zero_add]; exact (hO2.cellAt j (by have := (List.getElem?_eq_some_iff.1 hx).1; have := HYL.out; have := HLN.out; omega)).trans (strV_at _ _ _ hx)))
        have HBw := Lib.hid (HB1.out.trans (HB.out.mono HB1.out.size))
        clear hO2
        go_wp2_with (go_at_call 11; refine CJ2.out.mono ?_; rintro e w' ⟨rfl, rfl⟩)
        go_ret2
        exact ⟨rfl, HBw.out⟩
  · have hno : phsT xs s = false := by
      unfold phsT phraseB
      rw [hw, Bool.true_and]
      cases ht : tabB xs
      · rfl
      · rw [ht] at hok
        rw [Bool.true_and]
        exact decide_eq_false (fun h => hok ⟨rfl, h⟩)
    obtain ⟨z1, z2⟩ := phs_no hno
    rw [z1, z2]
    obtain ⟨q, hq⟩ : ∃ q, q = decide ((spaceB s).length ≤ 8) := ⟨_, rfl⟩
    rw [← hq] at CP
    have hqn : tabB xs = true → q = false := fun h => by rw [hq]; exact decide_eq_false (fun h2 => hok ⟨h, h2⟩)
    clear z1 z2 hw hno hok hq
    cases ht : tabB xs
    · rw [ht] at CT
      clear ht hqn
      go_enter Tryd.func4, Tryd.ntmps4
      go_wp2_with fail
      refine CP.out.mono ?_
      rintro e w1 ⟨v, rfl, hO1, hb1⟩
      go_wp2_with fail
      refine (CT.out w1 hb1).mono ?_
      rintro e w' ⟨rfl, rfl⟩
      go_wp2_with fail
      go_ret2
      exact ⟨rfl, hb1⟩
    · rw [ht] at CT
      obtain rfl := hqn ht
      clear ht hqn
      go_enter Tryd.func4, Tryd.ntmps4
      go_wp2_with fail
      refine CP.out.mono ?_
      rintro e w1 ⟨v, rfl, hO1, hb1⟩
      go_wp2_with fail
      refine (CT.out w1 hb1).mono ?_
      rintro e w' ⟨rfl, rfl⟩
      go_wp2_with fail
      go_ret2
      exact ⟨rfl, hb1⟩
end Go.Proofs.YtmbahbnadkmnkaaDoor
