/-
  The contracts of impl.isLetter, impl.alphabetOf and impl.IsAlphabet.
-/
import Derived.Test.YtdbbolnmcbhflaaDict
import Derived.WalkArith
namespace Go.Proofs.Ytdbbolnmcbhflaa
set_option linter.unusedVariables false
open Go.RowKit Go.Maps Go.WideMaps

theorem wf_num (k : Nat) (h : k ≤ 9223372036854775807) : (Lit.int .i64 (k : Int)).wf = true := by
  exact WalkArith.wf_i64 ⟨by omega, by omega⟩

theorem cIsLetter (s : ByteArray) (w : World) (hs : s.size ≤ maxLen) :
    Calls Try.prog 54 #[.string s] w fun e w' => e = .returned (.bool (letterB s)) ∧ w = w' := by
  have HW := Lib.hid (fun W => cIsWord_impl s W hs)
  unfold maxLen at hs
  by_cases h3 : s.size ≤ 3
  · have HL := Lib.hid (letter_word s h3)
    go_enter Try.func54, Try.ntmps54
    go_wp2_with (go_at_call 37; refine (HW.out _).mono ?_; rintro e w' ⟨rfl, rfl⟩)
    go_ret
    exact ⟨ret_bool HL.out, rfl⟩
  · have HL := Lib.hid (letter_long s (by omega))
    go_enter Try.func54, Try.ntmps54
    go_wp2
    go_ret
    exact ⟨ret_bool HL.out.symm, rfl⟩

def dictV (ok : Bool) (mb : Nat) : Value := if ok then .tuple #[.map (some mb), .bool true] else .tuple #[.map none, .bool false]
theorem dictV_no (xs : List ByteArray) (mb : Nat) (h : alphaB xs = false) : dictV (alphaB xs) mb = .tuple #[.map none, .bool false] := by rw [h]; rfl
theorem dictV_yes (xs : List ByteArray) (mb : Nat) (h : alphaB xs = true) : dictV (alphaB xs) mb = .tuple #[.map (some mb), .bool true] := by rw [h]; rfl

theorem cAlphaOf_none (A : Option Addr) (cap : Nat) (w : World) :
    Calls Try.prog 36 #[.slice A 0 cap] w fun e w' => e = .returned (.tuple #[.map none, .bool false]) ∧ w = w' := by
  go_enter Try.func36, Try.ntmps36
  go_wp2
  go_ret2
  exact ⟨rfl, rfl⟩

set_option maxHeartbeats 1000000 in
set_option maxRecDepth 100000 in
theorem cAlphaOf (b o c n : Nat) (xs : List ByteArray) (w : World) (hn : n = xs.length) (hpos : 0 < n) (hbig : n ≤ maxLen) (hs : ∀ x ∈ xs, x.size ≤ maxLen) (hb : b < w.heap.size)
    (hc : ∀ (j : Nat) x, xs[j]? = some x → w.cell? ⟨b, o + j, none⟩ = some (.string x)) :
    Calls Try.prog 36 #[.slice (some ⟨b, o, none⟩) n c] w fun e w' => e = .returned (dictV (alphaB xs) w.heap.size) ∧ (alphaB xs = true → Dict w' w.heap.size xs) ∧ Below w.heap.size w w' := by
  have hmm := @run_makeMap Try.prog
  unfold maxLen at hbig
  have HN := Lib.hid hn
  have HC := Lib.hid hc
  have HS := Lib.hid hs
  clear hc hs
  by_cases h40 : 40 < n
  · have hF := alpha_long xs (by omega)
    have HF := Lib.hid hF
    clear hF hn
    go_enter Try.func36, Try.ntmps36
    go_wp2
    go_ret2
    refine ⟨by rw [dictV_no xs _ HF.out]; rfl, fun h => ?_, Below.refl _ _⟩
    have := HF.out; rw [this] at h; cases h
  clear hn
  go_enter Try.func36, Try.ntmps36
  go_wp2
  go_loopw [20] (fun i wr => ∃ k : Nat, k ≤ n ∧ i = .int .i64 k ∧ Hid (goodB (xs.take k) = true) ∧ Hid (Dict wr w.heap.size (xs.take k)) ∧ Below w.heap.size w wr) (fun i _ => n - (intOf i).toNat)
  case atStart => exact ⟨0, Nat.zero_le _, rfl, Lib.hid (good_zero xs), Lib.hid (Dict.made w), (Below.refl _ _).alloc (Nat.le_refl _) _⟩
  case round =>
    obtain ⟨k, hk, rfl, HA, HD, hbw⟩ := hrel
    by_cases hlt : k < n
    · obtain ⟨x, hx⟩ : ∃ x, xs[k]? = some x := ⟨xs[k]'(by have := HN.out; omega), List.getElem?_eq_getElem _⟩
      have hcx := (hbw.cell (by exact hb)).trans (HC.out k x hx)
      have hsx := HS.out x (List.mem_of_getElem? hx)
      have hl := HD.out.look x hsx
      have CL := Lib.hid (fun W => cIsLetter x W hsx)
      have HX := Lib.hid hx
      clear hx
      by_cases hm : x ∈ xs.take k
      · rw [decide_eq_true hm] at hl
        have hF := alpha_bad xs (good_twice xs k x HX.out hm)
        have HF := Lib.hid hF
        clear hm hF
        go_wp2
        go_ret2
        refine ⟨by rw [dictV_no xs _ HF.out]; rfl, fun h => ?_, hbw⟩
        have := HF.out; rw [this] at h; cases h
      · rw [decide_eq_false hm] at hl
        have HM := Lib.hid hm
        clear hm
        cases hlb : letterB x
        · rw [hlb] at CL
          have hF := alpha_bad xs (good_bad xs k x HX.out hlb)
          have HF := Lib.hid hF
          clear hlb hF
          go_wp2_with (go_at_call 54; refine (CL.out _).mono ?_; rintro e w' ⟨rfl, rfl⟩)
          go_ret2
          refine ⟨by rw [dictV_no xs _ HF.out]; rfl, fun h => ?_, hbw⟩
          have := HF.out; rw [this] at h; cases h
        · rw [hlb] at CL
          have HB := Lib.hid hlb
          obtain ⟨D, hown, hDD⟩ := HD.out
          have hkey := dict_key x hsx
          have hlen : (xs.take k).length = k := by have := HN.out; rw [List.length_take]; omega
          rw [hlen] at hown
          have HDS := Lib.hid (dictD_step xs k x hDD HX.out HM.out hsx)
          clear hlb hDD hlen HD
          go_wp2_with (first
            | (go_at_call 54; refine (CL.out _).mono ?_; rintro e w' ⟨rfl, rfl⟩)
            | (at_mapUpdate; go_loud (refine wpList_mapUpdate_own _ rfl _ _ _ 55 rfl 9 2 dict_law Try.underlying55 _ w.heap.size k _ rfl hown (by unfold maxLen; omega) _ _ _ rfl rfl hkey (numL k) [] (plainElem_int Try.underlying2 (by refine wf_num k ?_; omega)) ?_); intro w1 hown1 hgrow1)
            | go_in)
          have R2 := hbw.grown hgrow1 hbw.size (fun j hj => by cases hj; exact Nat.le_refl _)
          have R1 : Hid (Dict w1 w.heap.size (xs.take (k + 1))) := Lib.hid ⟨_, by rw [show (xs.take (k + 1)).length = k + 1 from by have := HN.out; rw [List.length_take]; omega]; exact hown1, HDS.out⟩
          clear hown1 hgrow1 hown hl hcx hbw
          go_wp2
          go_roundw
          case rel => exact ⟨k + 1, by omega, by go_num, Lib.hid (good_step xs k x HX.out HA.out HB.out HM.out), R1, R2⟩
          case measure => simp [intOf]; omega
    · have hw : xs.take k = xs := List.take_of_length_le (by have := HN.out; omega)
      have hT : alphaB xs = true := alpha_yes xs (by rw [← hw]; exact HA.out) (by have := HN.out; omega) (by have := HN.out; omega)
      have hD : Dict wr w.heap.size xs := by have := HD.out; rw [hw] at this; exact this
      have HT := Lib.hid hT
      have HDD := Lib.hid hD
      clear hw hT hD HA HD
      go_wp2
      go_ret2
      exact ⟨by rw [dictV_yes xs _ HT.out]; rfl, fun _ => HDD.out, hbw⟩

theorem cIsAlpha_none (A : Option Addr) (cap : Nat) (w : World) :
    Calls Try.prog 43 #[.slice A 0 cap] w fun e w' => e = .returned (.bool false) ∧ w = w' := by
  go_enter Try.func43, Try.ntmps43
  go_wp2_with (go_at_call 36; refine (cAlphaOf_none _ _ _).mono ?_; rintro e w' ⟨rfl, rfl⟩)
  go_ret
  exact ⟨rfl, rfl⟩

theorem cIsAlpha (b o c n : Nat) (xs : List ByteArray) (w : World) (hn : n = xs.length) (hpos : 0 < n) (hbig : n ≤ maxLen) (hs : ∀ x ∈ xs, x.size ≤ maxLen) (hb : b < w.heap.size)
    (hc : ∀ (j : Nat) x, xs[j]? = some x → w.cell? ⟨b, o + j, none⟩ = some (.string x)) :
    Calls Try.prog 43 #[.slice (some ⟨b, o, none⟩) n c] w fun e w' => e = .returned (.bool (alphaB xs)) ∧ Below w.heap.size w w' := by
  have C := Lib.hid (cAlphaOf b o c n xs w hn hpos hbig hs hb hc)
  clear hn hs hc
  cases ha : alphaB xs
  · rw [ha] at C
    go_enter Try.func43, Try.ntmps43
    go_wp2_with (go_at_call 36; refine (show Calls Try.prog _ _ _ (fun e w' => e = .returned (.tuple #[.map none, .bool false]) ∧ _ ∧ Below w.heap.size w w') from C.out).mono ?_; rintro e w1 ⟨rfl, _, hb1⟩)
    go_ret
    exact ⟨rfl, hb1⟩
  · rw [ha] at C
    go_enter Try.func43, Try.ntmps43
    go_wp2_with (go_at_call 36; refine (show Calls Try.prog _ _ _ (fun e w' => e = .returned (.tuple #[.map (some w.heap.size), .bool true]) ∧ _ ∧ Below w.heap.size w w') from C.out).mono ?_; rintro e w1 ⟨rfl, _, hb1⟩)
    go_ret
    exact ⟨rfl, hb1⟩
end Go.Proofs.Ytdbbolnmcbhflaa
