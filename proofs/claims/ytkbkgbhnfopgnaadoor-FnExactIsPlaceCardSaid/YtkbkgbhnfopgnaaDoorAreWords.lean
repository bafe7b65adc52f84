/-
  The contracts of impl.areWords (at a slice whose cells hold given texts).
-/
import Derived.Test.YtkbkgbhnfopgnaaDoorIsWord
import Derived.Laws.NewBlocks
import Derived.BigQuiet
import Derived.Deep.QuietTactic
namespace Go.Proofs.YtkbkgbhnfopgnaaDoor
set_option linter.unusedVariables false
open Go.RowKit

def wordsB (xs : List ByteArray) : Bool := xs.all wordB
theorem wordsB_two (a b : ByteArray) : wordsB [a, b] = (wordB a && wordB b) := by simp [wordsB]
theorem wordsB_take_zero (xs : List ByteArray) : wordsB (xs.take 0) = true := rfl
theorem wordsB_step (xs : List ByteArray) (k : Nat) (x : ByteArray) (h : xs[k]? = some x) (ha : wordsB (xs.take k) = true) (hc : wordB x = true) : wordsB (xs.take (k + 1)) = true := by
  have hk : k < xs.length := (List.getElem?_eq_some_iff.1 h).1
  have hx : xs[k] = x := (List.getElem?_eq_some_iff.1 h).2
  rw [List.take_succ_eq_append_getElem hk]; unfold wordsB at *; simp [List.all_append, ha, hx, hc]
theorem wordsB_stop (xs : List ByteArray) (k : Nat) (x : ByteArray) (h : xs[k]? = some x) (hc : wordB x = false) : wordsB xs = false := by
  unfold wordsB; rw [List.all_eq_false]
  exact ⟨x, List.mem_of_getElem? h, by simp [hc]⟩
theorem wordsB_end (xs : List ByteArray) (k : Nat) (h : xs.length ≤ k) : wordsB (xs.take k) = wordsB xs := by
  rw [List.take_of_length_le h]

set_option maxHeartbeats 400000 in
theorem cAreAllW (b o c n : Nat) (xs : List ByteArray) (w : World) (hn : n = xs.length) (hbig : n ≤ 9223372036854775807) (hs : ∀ x ∈ xs, x.size ≤ maxLen)
    (hc : ∀ (j : Nat) x, xs[j]? = some x → w.cell? ⟨b, o + j, none⟩ = some (.string x)) :
    Calls Tryd.prog 105 #[.slice (some ⟨b, o, none⟩) n c, .func (.func 46) #[] #[]] w fun e w' => e = .returned (.bool (wordsB xs)) ∧ w = w' := by
  have HN := Lib.hid hn
  clear hn
  have HC := Lib.hid hc
  clear hc
  have HS := Lib.hid hs
  clear hs
  go_enter Tryd.func105, Tryd.ntmps105
  go_wp2
  go_loop [9] (fun i => ∃ k : Nat, k ≤ n ∧ i = .int .i64 k ∧ Hid (wordsB (xs.take k) = true)) (fun i => n - (intOf i).toNat)
  case atStart => exact ⟨0, Nat.zero_le _, rfl, Lib.hid rfl⟩
  case round =>
    obtain ⟨k, hk, rfl, HA⟩ := hrel
    by_cases hlt : k < n
    · obtain ⟨x, hx⟩ : ∃ x, xs[k]? = some x := ⟨xs[k]'(by have := HN.out; omega), List.getElem?_eq_getElem _⟩
      have hcx := HC.out k x hx
      have hsx := HS.out x (List.mem_of_getElem? hx)
      have HX := Lib.hid hx
      clear hx
      cases hb : wordB x
      · have HB := Lib.hid hb
        go_wp2_with (go_at_call 46; refine (cIsWord_impl x _ hsx).mono ?_; rintro e w' ⟨rfl, rfl⟩)
        go_ret
        exact ⟨ret_bool (wordsB_stop xs k x HX.out HB.out).symm, rfl⟩
      · have HB := Lib.hid hb
        go_wp2_with (go_at_call 46; refine (cIsWord_impl x _ hsx).mono ?_; rintro e w' ⟨rfl, rfl⟩)
        go_round
        case rel => exact ⟨k + 1, by omega, by go_num, Lib.hid (wordsB_step xs k x HX.out HA.out HB.out)⟩
        case measure => simp [intOf]; omega
    · go_wp2
      go_ret
      exact ⟨ret_bool ((wordsB_end xs k (by have := HN.out; omega)).symm.trans HA.out).symm, rfl⟩
theorem cAreWords (b o c n : Nat) (xs : List ByteArray) (w : World) (hn : n = xs.length) (hbig : n ≤ 9223372036854775807) (hs : ∀ x ∈ xs, x.size ≤ maxLen)
    (hc : ∀ (j : Nat) x, xs[j]? = some x → w.cell? ⟨b, o + j, none⟩ = some (.string x)) :
    Calls Tryd.prog 103 #[.slice (some ⟨b, o, none⟩) n c] w fun e w' => e = .returned (.bool (wordsB xs)) ∧ w = w' := by
  have CA := Lib.hid (cAreAllW b o c n xs w hn hbig hs hc)
  clear hn hbig hs hc
  generalize wordsB xs = r at CA ⊢
  go_enter Tryd.func103, Tryd.ntmps103
  go_wp2_with (go_at_call 105; refine CA.out.mono ?_; rintro e w' ⟨rfl, rfl⟩)
  go_ret
  exact ⟨rfl, rfl⟩

/-- The code of two words. -/
def twoE (a b : ByteArray) : Bool := wordB a && wordB b
theorem cells_two (w : World) (a b : ByteArray) (B : Nat) (hc : ∀ i v, (#[.string a, .string b] : Array Value)[i]? = some v → w.cell? ⟨B, i, none⟩ = some v) :
    ∀ (j : Nat) x, [a, b][j]? = some x → w.cell? ⟨B, 0 + j, none⟩ = some (.string x) := by
  intro j x h
  rw [Nat.zero_add]
  match j, h with
  | 0, h => obtain rfl : a = x := by simpa using h
            exact hc 0 _ rfl
  | 1, h => obtain rfl : b = x := by simpa using h
            exact hc 1 _ rfl

/-- impl.areWords at a fresh slice of two texts. -/
theorem cAreWords2 (a b : ByteArray) (w : World) (ha : a.size ≤ maxLen) (hb : b.size ≤ maxLen) :
    Calls Tryd.prog 103 #[.slice (some ⟨w.heap.size, 0, none⟩) 2 2] (w.alloc (.cells #[.string a, .string b] 9)) fun e w' => e = .returned (.bool (twoE a b)) ∧ w.alloc (.cells #[.string a, .string b] 9) = w' := by
  refine (cAreWords w.heap.size 0 2 2 [a, b] _ rfl (by omega) (by simp [ha, hb]) (cells_two _ a b _ ?_)).mono fun e w' ⟨he, hw⟩ => ⟨by rw [he, wordsB_two, twoE], hw⟩
  intro i v h
  rw [World.cell?_alloc_at _ _ _ _ rfl]
  exact h

end Go.Proofs.YtkbkgbhnfopgnaaDoor
