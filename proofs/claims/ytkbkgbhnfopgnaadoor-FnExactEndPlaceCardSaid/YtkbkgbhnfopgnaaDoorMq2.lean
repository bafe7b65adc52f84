/-
  The contracts of spec.l01In and impl.areLetters: each returns a bool, and nothing in memory changes.
-/
import Derived.Test.YtkbkgbhnfopgnaaDoorChecked
import Derived.Test.YtkbkgbhnfopgnaaDoorMq1
import Derived.LoopTactic
import Derived.Outline
import Derived.Laws.NewBlocks
import Derived.BigQuiet
import Derived.Deep.QuietTactic
namespace Go.Proofs.YtkbkgbhnfopgnaaDoor
section
set_option linter.unusedVariables false
open Go.RowKit

theorem cIn_any (n lo hi : Int) (w : World) :
    Calls Tryd.prog 35 #[.int .i64 n, .int .i64 lo, .int .i64 hi] w fun e w' => e = .returned (.bool (decide (lo ≤ n) && decide (n ≤ hi))) ∧ w = w' := by
  by_cases h1 : lo ≤ n <;> by_cases h2 : n ≤ hi
  all_goals
    go_enter Tryd.func35, Tryd.ntmps35
    go_wp2
    go_ret
    exact ⟨by simp [h1, h2], rfl⟩

set_option maxHeartbeats 400000 in
theorem cLetters (s : ByteArray) (w : World) (hs : s.size ≤ maxLen) :
    Calls Tryd.prog 72 #[.string s] w fun e w' => e = .returned (.bool (lowAll s.data.toList)) ∧ w = w' := by
  unfold maxLen at hs
  go_enter Tryd.func72, Tryd.ntmps72
  go_wp2
  go_loop [6] (fun i => ∃ k : Nat, k ≤ s.size ∧ i = .int .i64 k ∧ Hid (lowAll (s.data.toList.take k) = true)) (fun i => s.size - (intOf i).toNat)
  case atStart => exact ⟨0, Nat.zero_le _, rfl, Lib.hid (lowAll_zero s)⟩
  case round =>
    obtain ⟨k, hk, rfl, HA⟩ := hrel
    by_cases hlt : k < s.size
    · go_wp2
      all_goals first
        | (have hno : (s[k].toNat : Int) < 97 ∨ (122 : Int) < (s[k].toNat : Int) := by first | assumption | omega
           go_ret
           exact ⟨ret_bool (lowAll_stop s k hlt (lowB_no _ hno)).symm, rfl⟩)
        | (go_round
           case rel => exact ⟨k + 1, by omega, by go_num, Lib.hid (lowAll_step s k hlt HA.out (lowB_yes _ (by omega) (by omega)))⟩
           case measure => simp [intOf]; omega)
    · go_wp2
      go_ret
      exact ⟨ret_bool ((lowAll_end s k (by omega)).symm.trans HA.out).symm, rfl⟩

theorem word_mid (s : ByteArray) (h0 : ¬ s.size < 1) (h1 : ¬ 16 < s.size) : wordB s = lowAll s.data.toList := by
  cases h : lowAll s.data.toList
  · unfold wordB; simp [h]
  · exact word_yes s (by omega) (by omega) h
set_option maxHeartbeats 400000 in
theorem cIsWord_impl (s : ByteArray) (w : World) (hs : s.size ≤ maxLen) :
    Calls Tryd.prog 46 #[.string s] w fun e w' => e = .returned (.bool (wordB s)) ∧ w = w' := by
  have CL := Lib.hid (cLetters s w hs)
  unfold maxLen at hs
  by_cases h0 : s.size < 1
  · have hx := word_none s h0
    have HX := Lib.hid hx; clear hx
    go_enter Tryd.func46, Tryd.ntmps46
    go_wp2
    go_ret
    exact ⟨ret_bool HX.out.symm, rfl⟩
  by_cases h1 : 16 < s.size
  · have hx := word_long s h1
    have HX := Lib.hid hx; clear hx
    go_enter Tryd.func46, Tryd.ntmps46
    go_wp2
    go_ret
    exact ⟨ret_bool HX.out.symm, rfl⟩
  have HX := Lib.hid (word_mid s h0 h1)
  go_enter Tryd.func46, Tryd.ntmps46
  go_wp2_with (go_at_call 72; refine CL.out.mono ?_; rintro e w' ⟨rfl, rfl⟩)
  go_ret
  exact ⟨ret_bool HX.out.symm, rfl⟩

set_option maxHeartbeats 400000 in
theorem cIsWord_spec (s : ByteArray) (w : World) (hs : s.size ≤ maxLen) :
    Calls Tryd.prog 34 #[.string s] w fun e w' => e = .returned (.bool (wordB s)) ∧ w = w' := by
  unfold maxLen at hs
  go_enter Tryd.func34, Tryd.ntmps34
  go_wp2
  go_loop [3] (fun i => ∃ k : Nat, k ≤ s.size ∧ i = .int .i64 k ∧ Hid (lowAll (s.data.toList.take k) = true)) (fun i => s.size - (intOf i).toNat)
  case atStart => exact ⟨0, Nat.zero_le _, rfl, Lib.hid (lowAll_zero s)⟩
  case round =>
    obtain ⟨k, hk, rfl, HA⟩ := hrel
    by_cases hlt : k < s.size
    · go_wp2
      all_goals first
        | (have hno : (s[k].toNat : Int) < 97 ∨ (122 : Int) < (s[k].toNat : Int) := by first | assumption | omega
           go_ret
           exact ⟨ret_bool (word_stop s k hlt (lowB_no _ hno)).symm, rfl⟩)
        | (go_round
           case rel => exact ⟨k + 1, by omega, by go_num, Lib.hid (lowAll_step s k hlt HA.out (lowB_yes _ (by omega) (by omega)))⟩
           case measure => simp [intOf]; omega)
    · go_wp2_with (go_at_call 35; refine (cIn_any _ _ _ _).mono ?_; rintro e w' ⟨rfl, rfl⟩)
      go_ret
      exact ⟨ret_bool (word_sum s ((lowAll_end s k (by omega)).symm.trans HA.out)).symm, rfl⟩
end
section
set_option linter.unusedVariables false
open Go.RowKit

def wordsB (xs : List ByteArray) : Bool := xs.all wordB
theorem wordsB_two (a b : ByteArray) : wordsB [a, b] = (wordB a && wordB b) := by simp [wordsB]
theorem wordsB_take_zero (xs : List ByteArray) : wordsB (xs.take 0) = true := rfl
theorem wordsB_step (xs : List ByteArray) (k : Nat) (x : ByteArray) (h : xs[k]? = some x) (ha : wordsB (xs.take k) = true) (hc : wordB x = true) : wordsB (xs.take (k + 1)) = true := by
  have hk : k < xs.length := (List.getElem?_eq_some_iff.1 h).1
  have hx : xs[k] = x := (List.getElem?_eq_some_iff.1 h).2
  rw [List.take_succ_eq_append_getElem hk]; unfold wordsB at *; simp [List.all_append, ha, hx, hc]
theorem wordsB_stop (xs : List ByteArray) (k : Nat) (x : ByteArray) (h : xs[k]? = some x) (hc : wordB x = false) : wordsB xs = false := by
  unfold wordsB; rw [List.all_eq_false]
  exact ⟨x, List.mem_of_getElem? h, by simp [hc]⟩
theorem wordsB_end (xs : List ByteArray) (k : Nat) (h : xs.length ≤ k) : wordsB (xs.take k) = wordsB xs := by
  rw [List.take_of_length_le h]

set_option maxHeartbeats 400000 in
theorem cAreAllW (b o c n : Nat) (xs : List ByteArray) (w : World) (hn : n = xs.length) (hbig : n ≤ 9223372036854775807) (hs : ∀ x ∈ xs, x.size ≤ maxLen)
    (hc : ∀ (j : Nat) x, xs[j]? = some x → w.cell? ⟨b, o + j, none⟩ = some (.string x)) :
    Calls Tryd.prog 105 #[.slice (some ⟨b, o, none⟩) n c, .func (.func 46) #[] #[]] w fun e w' => e = .returned (.bool (wordsB xs)) ∧ w = w' := by
  have HN := Lib.hid hn
  clear hn
  have HC := Lib.hid hc
  clear hc
  have HS := Lib.hid hs
  clear hs
  go_enter Tryd.func105, Tryd.ntmps105
  go_wp2
  go_loop [9] (fun i => ∃ k : Nat, k ≤ n ∧ i = .int .i64 k ∧ Hid (wordsB (xs.take k) = true)) (fun i => n - (intOf i).toNat)
  case atStart => exact ⟨0, Nat.zero_le _, rfl, Lib.hid rfl⟩
  case round =>
    obtain ⟨k, hk, rfl, HA⟩ := hrel
    by_cases hlt : k < n
    · obtain ⟨x, hx⟩ : ∃ x, xs[k]? = some x := ⟨xs[k]'(by have := HN.out; omega), List.getElem?_eq_getElem _⟩
      have hcx := HC.out k x hx
      have hsx := HS.out x (List.mem_of_getElem? hx)
      have HX := Lib.hid hx
      clear hx
      cases hb : wordB x
      · have HB := Lib.hid hb
        go_wp2_with (go_at_call 46; refine (cIsWord_impl x _ hsx).mono ?_; rintro e w' ⟨rfl, rfl⟩)
        go_ret
        exact ⟨ret_bool (wordsB_stop xs k x HX.out HB.out).symm, rfl⟩
      · have HB := Lib.hid hb
        go_wp2_with (go_at_call 46; refine (cIsWord_impl x _ hsx).mono ?_; rintro e w' ⟨rfl, rfl⟩)
        go_round
        case rel => exact ⟨k + 1, by omega, by go_num, Lib.hid (wordsB_step xs k x HX.out HA.out HB.out)⟩
        case measure => simp [intOf]; omega
    · go_wp2
      go_ret
      exact ⟨ret_bool ((wordsB_end xs k (by have := HN.out; omega)).symm.trans HA.out).symm, rfl⟩
theorem cAreWords (b o c n : Nat) (xs : List ByteArray) (w : World) (hn : n = xs.length) (hbig : n ≤ 9223372036854775807) (hs : ∀ x ∈ xs, x.size ≤ maxLen)
    (hc : ∀ (j : Nat) x, xs[j]? = some x → w.cell? ⟨b, o + j, none⟩ = some (.string x)) :
    Calls Tryd.prog 103 #[.slice (some ⟨b, o, none⟩) n c] w fun e w' => e = .returned (.bool (wordsB xs)) ∧ w = w' := by
  have CA := Lib.hid (cAreAllW b o c n xs w hn hbig hs hc)
  clear hn hbig hs hc
  generalize wordsB xs = r at CA ⊢
  go_enter Tryd.func103, Tryd.ntmps103
  go_wp2_with (go_at_call 105; refine CA.out.mono ?_; rintro e w' ⟨rfl, rfl⟩)
  go_ret
  exact ⟨rfl, rfl⟩

/-- The code of two words. -/
def twoE (a b : ByteArray) : Bool := wordB a && wordB b
theorem cells_two (w : World) (a b : ByteArray) (B : Nat) (hc : ∀ i v, (#[.string a, .string b] : Array Value)[i]? = some v → w.cell? ⟨B, i, none⟩ = some v) :
    ∀ (j : Nat) x, [a, b][j]? = some x → w.cell? ⟨B, 0 + j, none⟩ = some (.string x) := by
  intro j x h
  rw [Nat.zero_add]
  match j, h with
  | 0, h => obtain rfl : a = x := by simpa using h
            exact hc 0 _ rfl
  | 1, h => obtain rfl : b = x := by simpa using h
            exact hc 1 _ rfl

/-- impl.areWords at a fresh slice of two texts. -/
theorem cAreWords2 (a b : ByteArray) (w : World) (ha : a.size ≤ maxLen) (hb : b.size ≤ maxLen) :
    Calls Tryd.prog 103 #[.slice (some ⟨w.heap.size, 0, none⟩) 2 2] (w.alloc (.cells #[.string a, .string b] 9)) fun e w' => e = .returned (.bool (twoE a b)) ∧ w.alloc (.cells #[.string a, .string b] 9) = w' := by
  refine (cAreWords w.heap.size 0 2 2 [a, b] _ rfl (by omega) (by simp [ha, hb]) (cells_two _ a b _ ?_)).mono fun e w' ⟨he, hw⟩ => ⟨by rw [he, wordsB_two, twoE], hw⟩
  intro i v h
  rw [World.cell?_alloc_at _ _ _ _ rfl]
  exact h

end
end Go.Proofs.YtkbkgbhnfopgnaaDoor
