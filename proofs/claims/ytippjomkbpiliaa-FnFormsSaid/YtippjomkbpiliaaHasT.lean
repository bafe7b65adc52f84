/-
  hasText.
-/
import Derived.Test.YtippjomkbpiliaaTexts
import Derived.Test.YtippjomkbpiliaaIsWord
import Derived.Test.YtippjomkbpiliaaAreWords
import Derived.Test.YtippjomkbpiliaaSp
import Derived.Test.YtippjomkbpiliaaAlphaS
import Derived.Test.YtippjomkbpiliaaEqS
namespace Go.Proofs.Ytippjomkbpiliaa
set_option linter.unusedVariables false
set_option linter.unusedSimpArgs false
open Go.RowKit

def hasT (s : ByteArray) (xs : List ByteArray) : Bool := xs.any (fun x => decide (x = s))
theorem hasT_miss (s : ByteArray) (xs : List ByteArray) (k : Nat) (x : ByteArray) (h : xs[k]? = some x) (hx : ¬ x = s) : hasT s (xs.take (k + 1)) = hasT s (xs.take k) := by
  have hl := (List.getElem?_eq_some_iff.1 h).1
  have he : xs[k] = x := (List.getElem?_eq_some_iff.1 h).2
  rw [List.take_succ_eq_append_getElem hl]; unfold hasT; simp [List.any_append, he, hx]
theorem hasT_in {s : ByteArray} {xs : List ByteArray} (h : s ∈ xs) : hasT s xs = true := by unfold hasT; rw [List.any_eq_true]; exact ⟨s, h, by simp⟩
theorem eqT_yes (x s : ByteArray) (h : x = s) : (x.toList == s.toList) = true := by rw [h]; exact beq_self_eq_true _
theorem eqT_no (x s : ByteArray) (h : ¬ x = s) : (x.toList == s.toList) = false := by rw [toList_beq]; exact decide_eq_false h
theorem retB (a b : Bool) (h : a = b) : Ending.returned (.bool a) = .returned (.bool b) := by rw [h]
theorem cHasT (s : ByteArray) (b o c n : Nat) (xs : List ByteArray) (w : World) (hn : n = xs.length) (hbig : n ≤ 1048576)
    (hc : ∀ (j : Nat) x, xs[j]? = some x → w.cell? ⟨b, o + j, none⟩ = some (.string x)) :
    Calls Try.prog 22 #[.slice (some ⟨b, o, none⟩) n c, .string s] w fun e w' => e = .returned (.bool (hasT s xs)) ∧ w = w' := by
  have HN := Lib.hid hn
  have HC := Lib.hid hc
  clear hn hc
  go_enter Try.func22, Try.ntmps22
  go_wp2
  go_loop [5] (fun i => ∃ k : Nat, k ≤ n ∧ i = .int .i64 k ∧ Hid (hasT s (xs.take k) = false)) (fun i => n - (intOf i).toNat)
  case atStart => exact ⟨0, Nat.zero_le _, rfl, Lib.hid rfl⟩
  case round =>
    obtain ⟨k, hk, rfl, HA⟩ := hrel
    by_cases hlt : k < n
    · obtain ⟨x, hx⟩ : ∃ x, xs[k]? = some x := ⟨xs[k]'(by have := HN.out; omega), List.getElem?_eq_getElem _⟩
      have hcx := HC.out k x hx
      have HX := Lib.hid hx
      clear hx
      by_cases he : x = s
      · have hd := eqT_yes x s he
        have HE := Lib.hid he
        clear he
        go_wp2
        go_ret
        exact ⟨retB _ _ (by symm; exact hasT_in (by rw [← HE.out]; exact List.mem_of_getElem? HX.out)), rfl⟩
      · have hd := eqT_no x s he
        have HE := Lib.hid he
        clear he
        go_wp2
        go_round
        case rel => exact ⟨k + 1, by omega, by go_num, Lib.hid ((hasT_miss s xs k x HX.out HE.out).trans HA.out)⟩
        case measure => simp [intOf]; omega
    · go_wp2
      go_ret
      exact ⟨retB _ _ (by have := HA.out; rw [List.take_of_length_le (by have := HN.out; omega)] at this; exact this.symm), rfl⟩
theorem tHasT (s : ByteArray) (A : Option Addr) (n c B : Nat) (xs : List ByteArray) (w : World) (hbig : n ≤ 1048576) (hp : s ∈ xs) (h : TextAt w B A n xs) :
    Calls Try.prog 22 #[.slice A n c, .string s] w fun e w' => e = .returned (.bool true) ∧ w = w' := by
  obtain ⟨b, o, rfl, hb, hc⟩ := h.2 (by rw [h.1]; exact List.length_pos_of_mem hp)
  have k := cHasT s b o c n xs w h.1 hbig hc
  rw [hasT_in hp] at k
  exact k

theorem cHasT_none (s : ByteArray) (A : Option Addr) (c : Nat) (w : World) :
    Calls Try.prog 22 #[.slice A 0 c, .string s] w fun e w' => e = .returned (.bool false) ∧ w = w' := by
  go_enter Try.func22, Try.ntmps22
  go_wp2
  refine wp_loop_rounds 1 ?_
  rw [rounds_succ]
  go_wp2
  go_ret
  exact ⟨rfl, rfl⟩
theorem aHasT (s : ByteArray) (A : Option Addr) (n c B : Nat) (xs : List ByteArray) (w : World) (hbig : n ≤ 1048576) (h : TextAt w B A n xs) :
    Calls Try.prog 22 #[.slice A n c, .string s] w fun e w' => e = .returned (.bool (hasT s xs)) ∧ w = w' := by
  rcases Nat.eq_zero_or_pos n with rfl | hp
  · obtain rfl : xs = [] := List.eq_nil_of_length_eq_zero h.1.symm
    exact cHasT_none s A c w
  · obtain ⟨b, o, rfl, hb, hc⟩ := h.2 hp
    exact cHasT s b o c n xs w h.1 hbig hc
end Go.Proofs.Ytippjomkbpiliaa
