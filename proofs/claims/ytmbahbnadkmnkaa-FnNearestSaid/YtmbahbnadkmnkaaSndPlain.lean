/-
  Plain facts on sounds: no program is named here. 'sndL xs l': the sound of the letters l by the numbers xs.
-/
import Derived.Test.YtmbahbnadkmnkaaWithin
import Derived.Test.YtmbahbnadkmnkaaAreWords
namespace Go.Proofs.Ytmbahbnadkmnkaa
set_option linter.unusedVariables false
open Go.RowKit

/-- A table of sounds. -/
def tabB (xs : List Int) : Bool := decide (xs.length = 26) && allW 0 9 xs
theorem tab_short {xs : List Int} (h : xs.length ≠ 26) : tabB xs = false := by unfold tabB; rw [decide_eq_false h, Bool.false_and]
theorem tab_of {xs : List Int} (h : xs.length = 26) : tabB xs = allW 0 9 xs := by unfold tabB; rw [decide_eq_true h, Bool.true_and]
theorem tab_bad {xs : List Int} (h : allW 0 9 xs = false) : tabB xs = false := by unfold tabB; rw [h, Bool.and_false]
theorem tab_good {xs : List Int} (h : allW 0 9 xs = true) : tabB xs = decide (xs.length = 26) := by unfold tabB; rw [h, Bool.and_true]
theorem tab_len {xs : List Int} (h : tabB xs = true) : xs.length = 26 := by unfold tabB at h; rw [Bool.and_eq_true, decide_eq_true_eq] at h; exact h.1
theorem tab_all {xs : List Int} (h : tabB xs = true) : allW 0 9 xs = true := by unfold tabB at h; rw [Bool.and_eq_true] at h; exact h.2

/-- The number of a letter. -/
def numC (xs : List Int) (c : UInt8) : Int := (xs[c.toNat - 97]?).getD 0
theorem numC_bd {xs : List Int} (h : tabB xs = true) (c : UInt8) : 0 ≤ numC xs c ∧ numC xs c ≤ 9 := by
  unfold numC
  cases hx : xs[c.toNat - 97]? with
  | none => simp
  | some x => exact allW_mem (tab_all h) (List.mem_of_getElem? hx)
theorem numC_at {xs : List Int} (h : tabB xs = true) {c : UInt8} (h1 : (97 : Int) ≤ (c.toNat : Int)) (h2 : (c.toNat : Int) ≤ 122) : xs[c.toNat - 97]? = some (numC xs c) := by
  have hl : c.toNat - 97 < xs.length := by rw [tab_len h]; omega
  unfold numC; rw [List.getElem?_eq_getElem hl]; rfl
theorem low_at {s : ByteArray} (h : lowAll s.data.toList = true) {k : Nat} (hk : k < s.size) : (97 : Int) ≤ (s[k].toNat : Int) ∧ (s[k].toNat : Int) ≤ 122 := by
  unfold lowAll at h; rw [List.all_eq_true] at h
  have := h s[k] (List.getElem_mem (l := s.data.toList) (by simpa using hk))
  unfold lowB at this; rw [Bool.and_eq_true, decide_eq_true_eq, decide_eq_true_eq] at this; omega
theorem word_low {s : ByteArray} (h : wordB s = true) : lowAll s.data.toList = true := by unfold wordB at h; rw [Bool.and_eq_true] at h; exact h.2

/-- The number of the letter at place k. -/
def numK (xs : List Int) (s : ByteArray) (k : Nat) : Int := numC xs (s.data.toList.getD k 97)
theorem getD_at (s : ByteArray) (k : Nat) (h : k < s.size) : s.data.toList.getD k 97 = s[k] := by
  have hl : k < s.data.toList.length := by simpa using h
  rw [List.getD_eq_getElem?_getD, List.getElem?_eq_getElem hl]; rfl
theorem numK_at (xs : List Int) (s : ByteArray) (k : Nat) (h : k < s.size) : numK xs s k = numC xs s[k] := by unfold numK; rw [getD_at s k h]
theorem numK_bd {xs : List Int} (h : tabB xs = true) (s : ByteArray) (k : Nat) : 0 ≤ numK xs s k ∧ numK xs s k ≤ 9 := numC_bd h _
theorem numK_cell {xs : List Int} (h : tabB xs = true) {s : ByteArray} (hw : lowAll s.data.toList = true) {k : Nat} (hk : k < s.size) : xs[s[k].toNat - 97]? = some (numK xs s k) := by
  rw [numK_at xs s k hk]; have := low_at hw hk; exact numC_at h this.1 this.2
/-- Does the letter at place k give a digit? -/
def givesB (xs : List Int) (s : ByteArray) (k : Nat) : Bool := decide (numK xs s k ≠ 0) && decide (numK xs s k ≠ numK xs s (k - 1))
theorem gives_yes {xs : List Int} {s : ByteArray} {k : Nat} (h1 : numK xs s k ≠ 0) (h2 : numK xs s k ≠ numK xs s (k - 1)) : givesB xs s k = true := by unfold givesB; rw [decide_eq_true h1, decide_eq_true h2]; rfl
theorem gives_no {xs : List Int} {s : ByteArray} {k : Nat} (h : numK xs s k = 0 ∨ numK xs s k = numK xs s (k - 1)) : givesB xs s k = false := by
  unfold givesB
  rcases h with h | h
  · rw [decide_eq_false (by simp [h]), Bool.false_and]
  · rw [decide_eq_false (p := numK xs s k ≠ numK xs s (k - 1)) (by simp [h]), Bool.and_false]
/-- A digit. -/
def digC (n : Int) : UInt8 := UInt8.ofNat (48 + n.toNat)
theorem digC_nat (n : Int) (h0 : 0 ≤ n) (h9 : n ≤ 9) : ((digC n).toNat : Int) = 48 + n := by
  unfold digC; rw [UInt8.toNat_ofNat_of_lt' (by simp [UInt8.size]; omega)]; omega
/-- The first letter and the digits of the first k letters behind it. -/
def sndU (xs : List Int) (s : ByteArray) : Nat → List UInt8
  | 0 => s.data.toList.take 1
  | k + 1 => if givesB xs s (k + 1) then sndU xs s k ++ [digC (numK xs s (k + 1))] else sndU xs s k
theorem sndU_zero (xs : List Int) (s : ByteArray) : sndU xs s 0 = s.data.toList.take 1 := rfl
theorem sndU_yes {xs : List Int} {s : ByteArray} {k : Nat} (h : givesB xs s (k + 1) = true) : sndU xs s (k + 1) = sndU xs s k ++ [digC (numK xs s (k + 1))] := by
  show (if _ then _ else _) = _; rw [if_pos h]
theorem sndU_no {xs : List Int} {s : ByteArray} {k : Nat} (h : givesB xs s (k + 1) = false) : sndU xs s (k + 1) = sndU xs s k := by
  show (if _ then _ else _) = _; rw [if_neg (by rw [h]; decide)]
theorem sndU_len (xs : List Int) (s : ByteArray) (k : Nat) : (sndU xs s k).length ≤ k + 1 := by
  induction k with
  | zero => rw [sndU_zero, List.length_take]; omega
  | succ k ih =>
    cases h : givesB xs s (k + 1)
    · rw [sndU_no h]; omega
    · rw [sndU_yes h, List.length_append, List.length_singleton]; omega
theorem sndU_pos (xs : List Int) (s : ByteArray) (k : Nat) (h : 1 ≤ s.size) : 1 ≤ (sndU xs s k).length := by
  induction k with
  | zero => rw [sndU_zero, List.length_take]; have : s.data.toList.length = s.size := by simp
            omega
  | succ k ih =>
    cases h : givesB xs s (k + 1)
    · rw [sndU_no h]; omega
    · rw [sndU_yes h, List.length_append, List.length_singleton]; omega
theorem sndU_pre (xs : List Int) (s : ByteArray) (k d : Nat) : sndU xs s k <+: sndU xs s (k + d) := by
  induction d with
  | zero => exact List.prefix_refl _
  | succ d ih =>
    show _ <+: sndU xs s (k + d + 1)
    cases h : givesB xs s (k + d + 1)
    · rw [sndU_no h]; exact ih
    · rw [sndU_yes h]; exact ih.trans (List.prefix_append _ _)
/-- Filled up to four characters, and no more than four. -/
def fillL (l : List UInt8) : List UInt8 := (l ++ List.replicate 3 48).take 4
theorem fillL_len {l : List UInt8} (h : 1 ≤ l.length) : (fillL l).length = 4 := by
  unfold fillL; rw [List.length_take, List.length_append, List.length_replicate]; omega
theorem fillL_long {l : List UInt8} (h : 4 ≤ l.length) : fillL l = l.take 4 := by
  unfold fillL; rw [List.take_append_of_le_length h]
theorem fillL_short {l : List UInt8} {j : Nat} (h : 1 ≤ l.length) (hj : l.length + j = 4) : fillL l = l ++ List.replicate j 48 := by
  unfold fillL
  rw [List.take_append, List.take_of_length_le (by omega), List.take_replicate]
  congr 2; omega
theorem fillL_stop {l m : List UInt8} (h : 4 ≤ l.length) (hp : l <+: m) : fillL m = fillL l := by
  obtain ⟨t, rfl⟩ := hp
  rw [fillL_long h, fillL_long (by rw [List.length_append]; omega), List.take_append_of_le_length h]
/-- The sound of a text. -/
def sndL (xs : List Int) (s : ByteArray) : List UInt8 := fillL (sndU xs s (s.size - 1))
def sndB (xs : List Int) (s : ByteArray) : ByteArray := ⟨(sndL xs s).toArray⟩
theorem sndL_len (xs : List Int) (s : ByteArray) (h : 1 ≤ s.size) : (sndL xs s).length = 4 := fillL_len (sndU_pos xs s _ h)
theorem sndB_size (xs : List Int) (s : ByteArray) (h : 1 ≤ s.size) : (sndB xs s).size = 4 := by
  show (sndL xs s).toArray.size = 4; rw [List.size_toArray, sndL_len xs s h]
theorem sndB_word (xs : List Int) (s : ByteArray) (h : wordB s = true) : (sndB xs s).size = 4 := sndB_size xs s (word_size s h).1
end Go.Proofs.Ytmbahbnadkmnkaa
