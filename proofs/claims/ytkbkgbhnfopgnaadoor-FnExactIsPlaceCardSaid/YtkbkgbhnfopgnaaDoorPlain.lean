/-
  Plain facts on words: no program is named here. 'wordB s': s has 1 to 16 bytes, each from 'a' to 'z'.
-/
import Derived.WalkKit
import Derived.Lib.Hide
import Derived.Below
namespace Go.Proofs.YtkbkgbhnfopgnaaDoor
set_option linter.unusedVariables false
open Go.RowKit

theorem ret_int {k : IntKind} {a b : Int} (h : a = b) : Ending.returned (.int k a) = .returned (.int k b) := by rw [h]
theorem ret_bool {a b : Bool} (h : a = b) : Ending.returned (.bool a) = .returned (.bool b) := by rw [h]

def lowB (c : UInt8) : Bool := decide (97 ≤ c.toNat) && decide (c.toNat ≤ 122)
def lowAll (l : List UInt8) : Bool := l.all lowB
def wordB (s : ByteArray) : Bool := decide (1 ≤ s.size) && decide (s.size ≤ 16) && lowAll s.data.toList

theorem lowB_yes (c : UInt8) (h1 : (97 : Int) ≤ (c.toNat : Int)) (h2 : (c.toNat : Int) ≤ 122) : lowB c = true := by
  unfold lowB; simp; omega
theorem lowB_no (c : UInt8) (h : (c.toNat : Int) < 97 ∨ (122 : Int) < (c.toNat : Int)) : lowB c = false := by
  unfold lowB; simp; omega

theorem take_snoc (s : ByteArray) (k : Nat) (h : k < s.size) : s.data.toList.take (k + 1) = s.data.toList.take k ++ [s[k]] := by
  rw [List.take_succ_eq_append_getElem (by simpa using h)]; rfl

theorem lowAll_zero (s : ByteArray) : lowAll (s.data.toList.take 0) = true := rfl
theorem lowAll_step (s : ByteArray) (k : Nat) (h : k < s.size) (ha : lowAll (s.data.toList.take k) = true) (hc : lowB s[k] = true) : lowAll (s.data.toList.take (k + 1)) = true := by
  rw [take_snoc s k h]; unfold lowAll at *; simp [List.all_append, ha, hc]
theorem lowAll_stop (s : ByteArray) (k : Nat) (h : k < s.size) (hc : lowB s[k] = false) : lowAll s.data.toList = false := by
  unfold lowAll
  rw [List.all_eq_false]
  exact ⟨s[k], List.getElem_mem (l := s.data.toList) (by simpa using h), by simp [hc]⟩
theorem lowAll_end (s : ByteArray) (k : Nat) (h : s.size ≤ k) : lowAll (s.data.toList.take k) = lowAll s.data.toList := by
  rw [List.take_of_length_le (by simp; omega)]

theorem word_stop (s : ByteArray) (k : Nat) (h : k < s.size) (hc : lowB s[k] = false) : wordB s = false := by
  unfold wordB; rw [lowAll_stop s k h hc]; simp
theorem word_long (s : ByteArray) (h : 16 < s.size) : wordB s = false := by
  unfold wordB; rw [show decide (s.size ≤ 16) = false from decide_eq_false (by omega)]; simp
theorem word_none (s : ByteArray) (h : s.size < 1) : wordB s = false := by
  unfold wordB; rw [show decide (1 ≤ s.size) = false from decide_eq_false (by omega)]; simp
theorem word_yes (s : ByteArray) (h1 : 1 ≤ s.size) (h2 : s.size ≤ 16) (h : lowAll s.data.toList = true) : wordB s = true := by
  unfold wordB; simp [h, h1, h2]
theorem word_sum (s : ByteArray) (h : lowAll s.data.toList = true) : wordB s = (decide ((1 : Int) ≤ (s.size : Int)) && decide ((s.size : Int) ≤ 16)) := by
  unfold wordB; rw [h, Bool.and_true]
  congr 1 <;> (rw [decide_eq_decide]; omega)
theorem word_size (s : ByteArray) (h : wordB s = true) : 1 ≤ s.size ∧ s.size ≤ 16 := by
  unfold wordB at h; simp at h; exact ⟨h.1.1, h.1.2⟩
end Go.Proofs.YtkbkgbhnfopgnaaDoor
