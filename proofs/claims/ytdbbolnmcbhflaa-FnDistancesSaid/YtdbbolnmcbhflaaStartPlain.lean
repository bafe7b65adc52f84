/-
  Plain facts on the number of letters with which two texts begin alike.
-/
import Derived.Test.YtdbbolnmcbhflaaPlain
namespace Go.Proofs.Ytdbbolnmcbhflaa
set_option linter.unusedVariables false

def startL : List UInt8 → List UInt8 → Nat
  | x :: a, y :: b => if x = y then startL a b + 1 else 0
  | _, _ => 0
theorem startL_eq : ∀ (k : Nat) (a b : List UInt8), k ≤ a.length → k ≤ b.length → a.take k = b.take k → (k < a.length → k < b.length → a[k]? ≠ b[k]?) → startL a b = k
  | 0, a, b, _, _, _, h => by
    cases a with
    | nil => rfl
    | cons x a =>
      cases b with
      | nil => rfl
      | cons y b =>
        have := h (by simp) (by simp)
        simp at this
        simp [startL, this]
  | k + 1, [], b, ha, _, _, _ => by simp at ha
  | k + 1, x :: a, [], _, hb, _, _ => by simp at hb
  | k + 1, x :: a, y :: b, ha, hb, ht, h => by
    simp only [List.take_succ_cons, List.cons.injEq] at ht
    obtain ⟨rfl, ht⟩ := ht
    simp only [startL, if_pos]
    rw [startL_eq k a b (by simpa using ha) (by simpa using hb) ht (fun h1 h2 => by simpa using h (by simpa using h1) (by simpa using h2))]
theorem startL_le : ∀ (a b : List UInt8), startL a b ≤ a.length ∧ startL a b ≤ b.length
  | [], _ => by simp [startL]
  | _ :: _, [] => by simp [startL]
  | x :: a, y :: b => by
    simp only [startL]
    have := startL_le a b
    split <;> simp <;> omega
def startB (a b : ByteArray) : Nat := startL a.data.toList b.data.toList
def alike (a b : ByteArray) (k : Nat) : Prop := a.data.toList.take k = b.data.toList.take k
theorem alike_zero (a b : ByteArray) : alike a b 0 := rfl
theorem alike_step (a b : ByteArray) (k : Nat) (h1 : k < a.size) (h2 : k < b.size) (h : alike a b k) (hc : a[k] = b[k]) : alike a b (k + 1) := by
  unfold alike at *
  rw [take_snoc a k h1, take_snoc b k h2, h, hc]
theorem start_end (a b : ByteArray) (k : Nat) (h1 : k ≤ a.size) (h2 : k ≤ b.size) (h : alike a b k) (he : k = a.size ∨ k = b.size) : startB a b = k := by
  unfold startB
  refine startL_eq k _ _ (by simpa using h1) (by simpa using h2) h (fun h3 h4 => ?_)
  simp at h3 h4
  omega
theorem start_stop (a b : ByteArray) (k : Nat) (h1 : k < a.size) (h2 : k < b.size) (h : alike a b k) (hc : a[k] ≠ b[k]) : startB a b = k := by
  unfold startB
  refine startL_eq k _ _ (by simp; omega) (by simp; omega) h (fun h3 h4 => ?_)
  rw [List.getElem?_eq_getElem h3, List.getElem?_eq_getElem h4]
  intro he
  exact hc (Option.some.inj he)
theorem startB_le (a b : ByteArray) : startB a b ≤ a.size ∧ startB a b ≤ b.size := by
  have := startL_le a.data.toList b.data.toList
  unfold startB; simpa using this
end Go.Proofs.Ytdbbolnmcbhflaa
