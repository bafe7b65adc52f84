/-
  The contracts of impl.CompareWords and spec.CompareWords: both answer 'cwV xs s t'.
-/
import Derived.Test.YtjockiedganokaaDoorCmpPh
namespace Go.Proofs.YtjockiedganokaaDoor
set_option linter.unusedVariables false
open Go.RowKit

theorem space_one (s : ByteArray) (h : wordB s = true) : spaceB s = [s] := by
  unfold spaceB
  exact bl_one s (low_no s (by unfold wordB at h; simp at h; simpa using h.2))
theorem phrase_one (s : ByteArray) (h : wordB s = true) : phraseB s = true := by
  unfold phraseB; rw [space_one s h]; unfold wordsB; simp [h]
theorem can_one (xs : List ByteArray) (s : ByteArray) (h : wordB s = true) : canP xs s = spellsB xs s := by
  unfold canP canW; rw [space_one s h]; simp
theorem key_one (xs : List ByteArray) (s : ByteArray) (h : wordB s = true) : keyP xs s = keyW xs s := by
  unfold keyP keysW; rw [space_one s h]; rfl
/-- What comparing two words answers. -/
def cwV (xs : List ByteArray) (s t : ByteArray) : Value :=
  if alphaB xs && (wordB s && wordB t) then (if spellsB xs s && spellsB xs t then .tuple #[.int .i64 (cmpL (idxL xs s) (idxL xs t)), .int .i64 0] else .tuple #[.int .i64 0, .int .i64 4]) else .tuple #[.int .i64 0, .int .i64 1]
theorem cwV_bad (xs : List ByteArray) (s t : ByteArray) (h : (alphaB xs && (wordB s && wordB t)) = false) : cwV xs s t = .tuple #[.int .i64 0, .int .i64 1] := by unfold cwV; rw [h]; rfl
theorem cwV_miss (xs : List ByteArray) (s t : ByteArray) (h : (alphaB xs && (wordB s && wordB t)) = true) (h2 : (spellsB xs s && spellsB xs t) = false) : cwV xs s t = .tuple #[.int .i64 0, .int .i64 4] := by unfold cwV; rw [h, h2]; rfl
theorem cwV_yes (xs : List ByteArray) (s t : ByteArray) (h : (alphaB xs && (wordB s && wordB t)) = true) (h2 : (spellsB xs s && spellsB xs t) = true) : cwV xs s t = .tuple #[.int .i64 (cmpL (idxL xs s) (idxL xs t)), .int .i64 0] := by unfold cwV; rw [h, h2]; rfl
theorem cw_cp (xs : List ByteArray) (s t : ByteArray) (hs : wordB s = true) (ht : wordB t = true) : cpV xs s t [] = cwV xs s t := by
  have hp : phrasesB [s, t] = true := by unfold phrasesB; simp [phrase_one s hs, phrase_one t ht]
  have hc : codeK xs [s, t] [] 0 = if alphaB xs then (if spellsB xs s && spellsB xs t then 0 else 4) else 1 := by
    unfold codeK
    rw [hp, Bool.and_true]
    have : ([s, t].all (canP xs)) = (spellsB xs s && spellsB xs t) := by simp [can_one xs s hs, can_one xs t ht]
    rw [this]; rfl
  have hord : ordP xs [] s t = cmpL (idxL xs s) (idxL xs t) := by
    unfold ordP
    rw [ordK_none, key_one xs s hs, key_one xs t ht]
    exact cmpL_map _ _
  cases ha : alphaB xs
  · rw [ha] at hc
    rw [cpV_no xs s t [] (by rw [hc]; simp), hc, cwV_bad xs s t (by rw [ha]; rfl)]; rfl
  · rw [ha] at hc
    have hb : (alphaB xs && (wordB s && wordB t)) = true := by rw [ha, hs, ht]; rfl
    cases hsp : (spellsB xs s && spellsB xs t)
    · rw [hsp] at hc
      rw [cpV_no xs s t [] (by rw [hc]; simp), hc, cwV_miss xs s t hb hsp]; rfl
    · rw [hsp] at hc
      rw [cpV_yes xs s t [] (by rw [hc]; rfl), cwV_yes xs s t hb hsp, hord]

set_option maxHeartbeats 1000000 in
theorem tCW_impl (A : Option Addr) (n c : Nat) (xs : List ByteArray) (s t : ByteArray) (w : World) (hbig : n ≤ 1048576) (hs : ∀ x ∈ xs, x.size ≤ maxLen) (h : TextAt w w.heap.size A n xs) (hsz : s.size ≤ 1048576) (htz : t.size ≤ 1048576) (hsh : w.ShapedOpen Tryd.prog) :
    Calls Tryd.prog 16 #[.slice A n c, .string s, .string t] w fun e w' => e = .returned (cwV xs s t) ∧ Below w.heap.size w w' := by
  have CA := Lib.hid (cAreWords2 s t w (by unfold maxLen; omega) (by unfold maxLen; omega))
  have hba : Below w.heap.size w (w.alloc (.cells #[.string s, .string t] 9)) := (Below.refl _ _).alloc (Nat.le_refl _) _
  have HB := Lib.hid hba
  unfold twoE at CA
  cases hw : (wordB s && wordB t)
  · rw [hw] at CA
    have HV := Lib.hid (cwV_bad xs s t (by rw [hw, Bool.and_false]))
    clear h hs hsh hba hw
    go_enter Tryd.func16, Tryd.ntmps16
    go_wp2_with fail
    refine CA.out.mono ?_
    rintro e w' ⟨rfl, rfl⟩
    go_wp2_with fail
    go_ret2
    exact ⟨by rw [HV.out]; rfl, HB.out⟩
  · rw [hw] at CA
    rw [Bool.and_eq_true] at hw
    have CC := Lib.hid (tCP_impl A none n 0 c 0 xs s t [] (w.alloc (.cells #[.string s, .string t] 9)) hbig hs ((h.below hba (Nat.le_refl _)).more hba.size) hsz htz ⟨rfl, fun h => absurd h (by omega)⟩ (by unfold maxLen; omega) (shaped_below hsh hba))
    rw [cw_cp xs s t hw.1 hw.2] at CC
    have hform : ∃ r cc : Int, cwV xs s t = .tuple #[.int .i64 r, .int .i64 cc] := by
      unfold cwV; split
      · split
        · exact ⟨_, _, rfl⟩
        · exact ⟨_, _, rfl⟩
      · exact ⟨_, _, rfl⟩
    obtain ⟨r, cc, hv⟩ := hform
    have HV := Lib.hid hv
    rw [hv] at CC
    clear h hs hsh hba hw hv
    go_enter Tryd.func16, Tryd.ntmps16
    go_wp2_with fail
    refine CA.out.mono ?_
    rintro e w' ⟨rfl, rfl⟩
    go_wp2_with fail
    refine CC.out.mono ?_
    rintro e w1 ⟨rfl, hb1⟩
    go_wp2_with fail
    go_ret2
    exact ⟨by rw [HV.out]; rfl, HB.out.trans (hb1.mono HB.out.size)⟩
/-- spec.l03Spell's answer, whatever it is. -/
theorem spell_any (A : Option Addr) (n cap : Nat) (xs : List ByteArray) (s : ByteArray) (w : World) (ha : alphaB xs = true) (hz : s.size ≤ 1048576) (h : TextAt w w.heap.size A n xs) :
    Calls Tryd.prog 51 #[.slice A n cap, .string s] w fun e w' => ∃ B m cc, e = .returned (.tuple #[.slice B m cc, .bool (spellsB xs s)]) ∧ (spellsB xs s = true → NumAt w' w'.heap.size B m (idxL xs s)) ∧ Below w.heap.size w w' := by
  refine (tSpell A n cap xs s w ha hz h).mono ?_
  rintro e w' (⟨h1, rfl, h2⟩ | ⟨h1, v, rfl, hown, h2⟩)
  · exact ⟨none, 0, 0, by rw [h1], fun hh => (by rw [h1] at hh; cases hh), h2⟩
  · have hi : IRow w' v (idxL xs s) := rowBase hown (Nat.zero_le _)
    obtain ⟨B, cc, rfl, hnum⟩ := hi.num
    exact ⟨B, _, cc, by rw [h1], fun _ => hnum, h2⟩

set_option maxHeartbeats 400000 in
set_option maxRecDepth 100000 in
theorem tCW_spec (A : Option Addr) (n c : Nat) (xs : List ByteArray) (s t : ByteArray) (w : World) (hbig : n ≤ 1048576) (hs : ∀ x ∈ xs, x.size ≤ maxLen) (h : TextAt w w.heap.size A n xs) (hsz : s.size ≤ 1048576) (htz : t.size ≤ 1048576) :
    Calls Tryd.prog 17 #[.slice A n c, .string s, .string t] w fun e w' => e = .returned (cwV xs s t) ∧ Below w.heap.size w w' := by
  have CI := Lib.hid (tIsAlpha_spec A n c _ xs w hbig hs h)
  have CS := Lib.hid (cIsWord_spec s w (by unfold maxLen; omega))
  have CT := Lib.hid (cIsWord_spec t w (by unfold maxLen; omega))
  cases hg : (alphaB xs && (wordB s && wordB t))
  · have HV := Lib.hid (cwV_bad xs s t hg)
    cases ha : alphaB xs
    · rw [ha] at CI
      clear h hs hg ha
      go_enter Tryd.func17, Tryd.ntmps17
      go_wp2_with (go_at_call 49; refine CI.out.mono ?_; rintro e w' ⟨rfl, rfl⟩)
      go_ret2
      exact ⟨by rw [HV.out]; rfl, Below.refl _ _⟩
    · rw [ha] at CI hg
      cases hw : wordB s
      · rw [hw] at CS
        clear h hs hg ha hw
        go_enter Tryd.func17, Tryd.ntmps17
        go_wp2_with (first
          | (go_at_call 49; refine CI.out.mono ?_; rintro e w' ⟨rfl, rfl⟩)
          | (go_at_call 50; refine CS.out.mono ?_; rintro e w' ⟨rfl, rfl⟩))
        go_ret2
        exact ⟨by rw [HV.out]; rfl, Below.refl _ _⟩
      · rw [hw] at CS hg
        have hw2 : wordB t = false := by simpa using hg
        rw [hw2] at CT
        clear h hs hg ha hw hw2
        go_enter Tryd.func17, Tryd.ntmps17
        go_wp2_with fail
        refine CI.out.mono ?_
        rintro e w' ⟨rfl, rfl⟩
        go_wp2_with fail
        refine CS.out.mono ?_
        rintro e w' ⟨rfl, rfl⟩
        go_wp2_with fail
        refine CT.out.mono ?_
        rintro e w' ⟨rfl, rfl⟩
        go_wp2_with fail
        go_ret2
        exact ⟨by rw [HV.out]; rfl, Below.refl _ _⟩
  · have hg' := hg
    rw [Bool.and_eq_true, Bool.and_eq_true] at hg'
    rw [hg'.1] at CI
    rw [hg'.2.1] at CS
    rw [hg'.2.2] at CT
    have ha := hg'.1
    have P1 := Lib.hid (spell_any A n c xs s w ha hsz h)
    have P2 : Hid (∀ W, Below w.heap.size w W → Calls Tryd.prog 51 #[.slice A n c, .string t] W fun e w' => ∃ B m cc, e = .returned (.tuple #[.slice B m cc, .bool (spellsB xs t)]) ∧ (spellsB xs t = true → NumAt w' w'.heap.size B m (idxL xs t)) ∧ Below W.heap.size W w') := Lib.hid (fun W hW => spell_any A n c xs t W ha htz ((h.below hW (Nat.le_refl _)).more hW.size))
    have hwl : s.size ≤ 16 ∧ t.size ≤ 16 := by
      have h1 := hg'.2.1
      have h2 := hg'.2.2
      unfold wordB at h1 h2
      simp at h1 h2
      exact ⟨h1.1.2, h2.1.2⟩
    have hl1 := idx_len xs s
    have hl2 := idx_len xs t
    have HG := Lib.hid hg
    clear h hs hg hg' ha
    cases hb1 : spellsB xs s
    · have HV := Lib.hid (cwV_miss xs s t HG.out (by rw [hb1]; rfl))
      rw [hb1] at P1
      clear hb1
      go_enter Tryd.func17, Tryd.ntmps17
      go_wp2_with fail
      refine CI.out.mono ?_
      rintro e w' ⟨rfl, rfl⟩
      go_wp2_with fail
      refine CS.out.mono ?_
      rintro e w' ⟨rfl, rfl⟩
      go_wp2_with fail
      refine CT.out.mono ?_
      rintro e w' ⟨rfl, rfl⟩
      go_wp2_with fail
      refine P1.out.mono ?_
      rintro e w1 ⟨B, m, cc, rfl, _, hw1⟩
      go_wp2_with fail
      refine (P2.out _ hw1).mono ?_
      rintro e w2 ⟨B', m', cc', rfl, _, hw2⟩
      go_wp2_with fail
      go_ret2
      exact ⟨by rw [HV.out]; rfl, hw1.trans (hw2.mono hw1.size)⟩
    · cases hb2 : spellsB xs t
      · have HV := Lib.hid (cwV_miss xs s t HG.out (by rw [hb2, Bool.and_false]))
        rw [hb1] at P1
        rw [hb2] at P2
        clear hb1 hb2
        go_enter Tryd.func17, Tryd.ntmps17
        go_wp2_with fail
        refine CI.out.mono ?_
        rintro e w' ⟨rfl, rfl⟩
        go_wp2_with fail
        refine CS.out.mono ?_
        rintro e w' ⟨rfl, rfl⟩
        go_wp2_with fail
        refine CT.out.mono ?_
        rintro e w' ⟨rfl, rfl⟩
        go_wp2_with fail
        refine P1.out.mono ?_
        rintro e w1 ⟨B, m, cc, rfl, _, hw1⟩
        go_wp2_with fail
        refine (P2.out _ hw1).mono ?_
        rintro e w2 ⟨B', m', cc', rfl, _, hw2⟩
        go_wp2_with fail
        go_ret2
        exact ⟨by rw [HV.out]; rfl, hw1.trans (hw2.mono hw1.size)⟩
      · have HV := Lib.hid (cwV_yes xs s t HG.out (by rw [hb1, hb2]; rfl))
        rw [hb1] at P1
        rw [hb2] at P2
        clear hb1 hb2
        go_enter Tryd.func17, Tryd.ntmps17
        go_wp2_with fail
        refine CI.out.mono ?_
        rintro e w' ⟨rfl, rfl⟩
        go_wp2_with fail
        refine CS.out.mono ?_
        rintro e w' ⟨rfl, rfl⟩
        go_wp2_with fail
        refine CT.out.mono ?_
        rintro e w' ⟨rfl, rfl⟩
        go_wp2_with fail
        refine P1.out.mono ?_
        rintro e w1 ⟨B, m, cc, rfl, hn1, hw1⟩
        have hn1 := Lib.hid (hn1 (by first | trivial | rfl))
        go_wp2_with fail
        refine (P2.out _ hw1).mono ?_
        rintro e w2 ⟨B', m', cc', rfl, hn2, hw2⟩
        have hn2 := hn2 (by first | trivial | rfl)
        have CL := Lib.hid (cLists6 B B' m m' cc cc' _ _ (idxL xs s) (idxL xs t) w2 (by have := hn1.out.1; omega) (by have := hn2.1; omega) (hn1.out.below hw2 (Nat.le_refl _)) hn2)
        clear hn1 hn2 hl1 hl2
        go_wp2_with fail
        refine CL.out.mono ?_
        rintro e w3 ⟨rfl, q, rfl⟩
        go_wp2_with fail
        go_ret2
        exact ⟨by rw [HV.out]; rfl, below_drN (hw1.trans (hw2.mono hw1.size)) q⟩
end Go.Proofs.YtjockiedganokaaDoor
