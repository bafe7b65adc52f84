/-
  The contracts of spec.IsSoundTable, spec.l07Code and spec.l07Sound.
-/
import Derived.Test.YtmbahbnadkmnkaaDoorSndF
import Derived.Test.YtmbahbnadkmnkaaDoorDec
import Derived.IntWalk
namespace Go.Proofs.YtmbahbnadkmnkaaDoor
set_option linter.unusedVariables false
open Go.RowKit

set_option maxHeartbeats 1000000 in
theorem cIsTabS (A : Option Addr) (n c B : Nat) (xs : List Int) (w : World) (hb : n ≤ maxLen) (h : NumAt w B A n xs) :
    Calls Tryd.prog 9 #[.slice A n c] w fun e w' => e = .returned (.bool (tabB xs)) ∧ w = w' := by
  unfold maxLen at hb
  have HL := Lib.hid h.1
  have H := Lib.hid h
  clear h
  go_enter Tryd.func9, Tryd.ntmps9
  go_wp2
  go_loop [3] (fun i => ∃ k : Nat, k ≤ n ∧ i = .int .i64 k ∧ Hid (allW 0 9 (xs.take k) = true)) (fun i => n - (intOf i).toNat)
  case atStart => exact ⟨0, Nat.zero_le _, rfl, Lib.hid (allW_zero 0 9 xs)⟩
  case round =>
    obtain ⟨k, hk, rfl, HA⟩ := hrel
    by_cases hlt : k < n
    · obtain ⟨x, hx⟩ : ∃ x, xs[k]? = some x := ⟨xs[k]'(by have := HL.out; omega), List.getElem?_eq_getElem _⟩
      obtain ⟨b, o, rfl, _, hcx⟩ := H.out.row hx
      have HX := Lib.hid hx
      clear hx
      have CI := Lib.hid (cIn_any x 0 9 w)
      by_cases hx0 : 0 ≤ x ∧ x ≤ 9
      · rw [decide_eq_true hx0.1, decide_eq_true hx0.2] at CI
        have HA2 := Lib.hid (allW_step HX.out HA.out hx0.1 hx0.2)
        clear hx0
        go_wp2_with (go_at_call 19; refine CI.out.mono ?_; rintro e w' ⟨rfl, rfl⟩)
        go_round
        case rel => exact ⟨k + 1, by omega, by go_num, HA2⟩
        case measure => simp [intOf]; omega
      · have HF : Hid (tabB xs = false) := Lib.hid (tab_bad (allW_stop HX.out (by omega)))
        rw [show (decide (0 ≤ x) && decide (x ≤ 9)) = false from by rw [← Bool.decide_and]; exact decide_eq_false hx0] at CI
        clear hx0
        go_wp2_with (go_at_call 19; refine CI.out.mono ?_; rintro e w' ⟨rfl, rfl⟩)
        go_ret
        exact ⟨ret_bool HF.out.symm, rfl⟩
    · have HF : Hid (tabB xs = decide (n = 26)) := Lib.hid (by rw [tab_good (by rw [← allW_end (k := k) (by have := HL.out; omega)]; exact HA.out), HL.out])
      by_cases h26 : n = 26
      · subst h26
        go_wp2
        go_ret
        exact ⟨ret_bool HF.out.symm, rfl⟩
      · rw [decide_eq_false h26] at HF
        have d3 : ((n : Int) == 26) = false := by simp; omega
        have d4 : decide ((n : Int) = 26) = false := by simp; omega
        go_wp2
        go_ret
        exact ⟨ret_bool HF.out.symm, rfl⟩

theorem code7_one (xs : List Int) (ls : List ByteArray) (s : ByteArray) : code7 xs ls [s] = if tabB xs && wordB s && wordsB ls then (if 20 < ls.length then 3 else 0) else 1 := by
  unfold code7 codeW
  rw [wordsB_one]
  cases tabB xs <;> cases wordB s <;> cases wordsB ls <;> rfl
theorem code7_two (xs : List Int) (a b : ByteArray) : code7 xs [] [a, b] = code7 xs [a] [b] := by
  unfold code7 codeW
  rw [wordsB_two, wordsB_one, wordsB_one]
  cases tabB xs <;> cases wordB a <;> cases wordB b <;> rfl
theorem code7_stop1 {xs : List Int} {ls : List ByteArray} {s : ByteArray} (h : tabB xs = false) : code7 xs ls [s] = 1 := code7_no h
theorem code7_stop2 {xs : List Int} {ls : List ByteArray} {s : ByteArray} (h : wordB s = false) : code7 xs ls [s] = 1 := by rw [code7_one, h]; simp
theorem code7_stop3 {xs : List Int} {ls : List ByteArray} {s : ByteArray} (h : wordsB ls = false) : code7 xs ls [s] = 1 := by rw [code7_one, h]; simp
theorem code7_end {xs : List Int} {ls : List ByteArray} {s : ByteArray} (h1 : tabB xs = true) (h2 : wordB s = true) (h3 : wordsB ls = true) : code7 xs ls [s] = if 20 < ls.length then 3 else 0 := by rw [code7_one, h1, h2, h3]; rfl

end Go.Proofs.YtmbahbnadkmnkaaDoor
