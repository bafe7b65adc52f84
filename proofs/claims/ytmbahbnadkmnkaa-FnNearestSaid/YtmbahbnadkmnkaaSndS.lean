/-
  The contracts of spec.IsSoundTable, spec.l07Code and spec.l07Sound.
-/
import Derived.Test.YtmbahbnadkmnkaaSndF
import Derived.Test.YtmbahbnadkmnkaaDec
import Derived.IntWalk
namespace Go.Proofs.Ytmbahbnadkmnkaa
set_option linter.unusedVariables false
open Go.RowKit

set_option maxHeartbeats 1000000 in
theorem cIsTabS (A : Option Addr) (n c B : Nat) (xs : List Int) (w : World) (hb : n ≤ maxLen) (h : NumAt w B A n xs) :
    Calls Try.prog 20 #[.slice A n c] w fun e w' => e = .returned (.bool (tabB xs)) ∧ w = w' := by
  unfold maxLen at hb
  have HL := Lib.hid h.1
  have H := Lib.hid h
  clear h
  go_enter Try.func20, Try.ntmps20
  go_wp2
  go_loop [3] (fun i => ∃ k : Nat, k ≤ n ∧ i = .int .i64 k ∧ Hid (allW 0 9 (xs.take k) = true)) (fun i => n - (intOf i).toNat)
  case atStart => exact ⟨0, Nat.zero_le _, rfl, Lib.hid (allW_zero 0 9 xs)⟩
  case round =>
    obtain ⟨k, hk, rfl, HA⟩ := hrel
    by_cases hlt : k < n
    · obtain ⟨x, hx⟩ : ∃ x, xs[k]? = some x := ⟨xs[k]'(by have := HL.out; omega), List.getElem?_eq_getElem _⟩
      obtain ⟨b, o, rfl, _, hcx⟩ := H.out.row hx
      have HX := Lib.hid hx
      clear hx
      have CI := Lib.hid (cIn_any x 0 9 w)
      by_cases hx0 : 0 ≤ x ∧ x ≤ 9
      · rw [decide_eq_true hx0.1, decide_eq_true hx0.2] at CI
        have HA2 := Lib.hid (allW_step HX.out HA.out hx0.1 hx0.2)
        clear hx0
        go_wp2_with (go_at_call 49; refine CI.out.mono ?_; rintro e w' ⟨rfl, rfl⟩)
        go_round
        case rel => exact ⟨k + 1, by omega, by go_num, HA2⟩
        case measure => simp [intOf]; omega
      · have HF : Hid (tabB xs = false) := Lib.hid (tab_bad (allW_stop HX.out (by omega)))
        rw [show (decide (0 ≤ x) && decide (x ≤ 9)) = false from by rw [← Bool.decide_and]; exact decide_eq_false hx0] at CI
        clear hx0
        go_wp2_with (go_at_call 49; refine CI.out.mono ?_; rintro e w' ⟨rfl, rfl⟩)
        go_ret
        exact ⟨ret_bool HF.out.symm, rfl⟩
    · have HF : Hid (tabB xs = decide (n = 26)) := Lib.hid (by rw [tab_good (by rw [← allW_end (k := k) (by have := HL.out; omega)]; exact HA.out), HL.out])
      by_cases h26 : n = 26
      · subst h26
        go_wp2
        go_ret
        exact ⟨ret_bool HF.out.symm, rfl⟩
      · rw [decide_eq_false h26] at HF
        have d3 : ((n : Int) == 26) = false := by simp; omega
        have d4 : decide ((n : Int) = 26) = false := by simp; omega
        go_wp2
        go_ret
        exact ⟨ret_bool HF.out.symm, rfl⟩

theorem code7_one (xs : List Int) (ls : List ByteArray) (s : ByteArray) : code7 xs ls [s] = if tabB xs && wordB s && wordsB ls then (if 20 < ls.length then 3 else 0) else 1 := by
  unfold code7 codeW
  rw [wordsB_one]
  cases tabB xs <;> cases wordB s <;> cases wordsB ls <;> rfl
theorem code7_two (xs : List Int) (a b : ByteArray) : code7 xs [] [a, b] = code7 xs [a] [b] := by
  unfold code7 codeW
  rw [wordsB_two, wordsB_one, wordsB_one]
  cases tabB xs <;> cases wordB a <;> cases wordB b <;> rfl
theorem code7_stop1 {xs : List Int} {ls : List ByteArray} {s : ByteArray} (h : tabB xs = false) : code7 xs ls [s] = 1 := code7_no h
theorem code7_stop2 {xs : List Int} {ls : List ByteArray} {s : ByteArray} (h : wordB s = false) : code7 xs ls [s] = 1 := by rw [code7_one, h]; simp
theorem code7_stop3 {xs : List Int} {ls : List ByteArray} {s : ByteArray} (h : wordsB ls = false) : code7 xs ls [s] = 1 := by rw [code7_one, h]; simp
theorem code7_end {xs : List Int} {ls : List ByteArray} {s : ByteArray} (h1 : tabB xs = true) (h2 : wordB s = true) (h3 : wordsB ls = true) : code7 xs ls [s] = if 20 < ls.length then 3 else 0 := by rw [code7_one, h1, h2, h3]; rfl

set_option maxHeartbeats 1000000 in
theorem cCode7 (A A1 : Option Addr) (n c n1 c1 B B1 : Nat) (xs : List Int) (ls : List ByteArray) (s : ByteArray) (w : World) (hb : n ≤ maxLen) (h : NumAt w B A n xs) (hb1 : n1 ≤ maxLen) (hs1 : ∀ x ∈ ls, x.size ≤ maxLen) (h1 : TextAt w B1 A1 n1 ls) (hs : s.size ≤ maxLen) :
    Calls Try.prog 48 #[.slice A n c, .slice A1 n1 c1, .string s] w fun e w' => e = .returned (.int .i64 (code7 xs ls [s])) ∧ w = w' := by
  have CT := Lib.hid (cIsTabS A n c B xs w hb h)
  have CS := Lib.hid (cIsWord_spec s w hs)
  unfold maxLen at hb hb1
  have HL := Lib.hid h1.1
  have H := Lib.hid h1
  have HS := Lib.hid hs1
  clear h h1 hs hs1
  cases e1 : tabB xs
  · rw [e1] at CT
    rw [code7_stop1 e1]
    clear e1
    go_enter Try.func48, Try.ntmps48
    go_wp2_with (go_at_call 20; refine CT.out.mono ?_; rintro e w' ⟨rfl, rfl⟩)
    go_ret
    exact ⟨rfl, rfl⟩
  cases e2 : wordB s
  · rw [e1] at CT
    rw [e2] at CS
    rw [code7_stop2 e2]
    clear e1 e2
    go_enter Try.func48, Try.ntmps48
    go_wp2_with (first
      | (go_at_call 20; refine CT.out.mono ?_; rintro e w' ⟨rfl, rfl⟩)
      | (go_at_call 69; refine CS.out.mono ?_; rintro e w' ⟨rfl, rfl⟩))
    go_ret
    exact ⟨rfl, rfl⟩
  have H3 : Hid (wordsB ls = false → code7 xs ls [s] = 1) := Lib.hid code7_stop3
  have H4 : Hid (wordsB ls = true → code7 xs ls [s] = if 20 < ls.length then 3 else 0) := Lib.hid (code7_end e1 e2)
  rw [e1] at CT
  rw [e2] at CS
  clear e1 e2
  go_enter Try.func48, Try.ntmps48
  go_wp2_with (first
    | (go_at_call 20; refine CT.out.mono ?_; rintro e w' ⟨rfl, rfl⟩)
    | (go_at_call 69; refine CS.out.mono ?_; rintro e w' ⟨rfl, rfl⟩))
  go_loop [7] (fun i => ∃ k : Nat, k ≤ n1 ∧ i = .int .i64 k ∧ Hid (wordsB (ls.take k) = true)) (fun i => n1 - (intOf i).toNat)
  case atStart => exact ⟨0, Nat.zero_le _, rfl, Lib.hid (wordsB_take_zero ls)⟩
  case round =>
    clear CT CS
    obtain ⟨k, hk, rfl, HA⟩ := hrel
    by_cases hlt : k < n1
    · obtain ⟨x, hx⟩ : ∃ x, ls[k]? = some x := ⟨ls[k]'(by have := HL.out; omega), List.getElem?_eq_getElem _⟩
      obtain ⟨b, o, rfl, hbl, hcc⟩ := H.out.2 (by omega)
      have hcx := hcc k x hx
      have hsx := HS.out x (List.mem_of_getElem? hx)
      have CX := Lib.hid (cIsWord_spec x w hsx)
      have HX := Lib.hid hx
      clear hx hcc
      cases hw : wordB x
      · have HF := Lib.hid (H3.out (wordsB_stop ls k x HX.out hw))
        rw [hw] at CX
        clear hw
        go_wp2_with (go_at_call 69; refine CX.out.mono ?_; rintro e w' ⟨rfl, rfl⟩)
        go_ret
        exact ⟨ret_int HF.out.symm, rfl⟩
      · have HA2 := Lib.hid (wordsB_step ls k x HX.out HA.out hw)
        rw [hw] at CX
        clear hw
        go_wp2_with (go_at_call 69; refine CX.out.mono ?_; rintro e w' ⟨rfl, rfl⟩)
        go_round
        case rel => exact ⟨k + 1, by omega, by go_num, HA2⟩
        case measure => simp [intOf]; omega
    · have HF := Lib.hid (H4.out (by rw [← wordsB_end ls k (by have := HL.out; omega)]; exact HA.out))
      by_cases h20 : 20 < n1
      · rw [if_pos (by have := HL.out; omega)] at HF
        go_wp2
        go_ret
        exact ⟨ret_int HF.out.symm, rfl⟩
      · rw [if_neg (by have := HL.out; omega)] at HF
        go_wp2
        go_ret
        exact ⟨ret_int HF.out.symm, rfl⟩
end Go.Proofs.Ytmbahbnadkmnkaa
