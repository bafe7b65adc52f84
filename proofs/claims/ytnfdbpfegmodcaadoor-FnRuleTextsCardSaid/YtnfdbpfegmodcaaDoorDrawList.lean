/-
  The contracts of spec.l01DrawValue, spec.DrawListText and spec.DrawReadList.
-/
import Derived.Test.YtnfdbpfegmodcaaDoorDrawSpan
import Derived.Test.YtnfdbpfegmodcaaDoorIntRow
import Derived.Test.YtnfdbpfegmodcaaDoorCommaG
namespace Go.Proofs.YtnfdbpfegmodcaaDoor
set_option linter.unusedVariables false
open Go.RowKit

theorem com_len2 (m : Nat) : ∀ (l : List (List UInt8)), (∀ y ∈ l, y.length ≤ m) → (comL l).length ≤ l.length * (m + 1)
  | [], _ => by simp [comL, Lib.join, List.intercalate, List.intersperse]
  | [a], h => by rw [comL_one]; have := h a (by simp); simp; omega
  | a :: b :: l, h => by
    rw [comL_cons, List.length_append, List.length_cons]
    have h1 := h a (by simp)
    have h2 := com_len2 m (b :: l) (fun y hy => h y (List.mem_cons_of_mem _ hy))
    simp only [List.length_cons] at h2 ⊢
    have e : (l.length + 1 + 1) * (m + 1) = (l.length + 1) * (m + 1) + (m + 1) := Nat.succ_mul _ _
    omega
def ListPost (w : World) (e : Ending) (w' : World) : Prop := ∃ (A : Option Addr) (n cap : Nat) (xs : List Int), n ≤ 61 ∧ e = .returned (.slice A n cap) ∧ RowI w' A n cap xs ∧ Below w.heap.size w w'
theorem zerosI (n : Nat) : (madeCells #[Value.int .i64 0] n).toList = intV (List.replicate n 0) := by
  apply List.ext_getElem?
  intro j
  by_cases h : j < n
  · simp [madeCells, intV, h, Nat.mod_one]
  · rw [List.getElem?_eq_none (by simp [madeCells]; omega), List.getElem?_eq_none (by simp [intV]; omega)]
theorem rowSl {w : World} {b k : Nat} {t : TypeId} {v : Value} {xs : List Value} (h : w.ownsRow b t 1 v k xs) : ∃ A cap, v = .slice A k cap := by
  rcases h.2 with ⟨h1, h2⟩ | ⟨g1, cap1, cur, h1, h2⟩
  · exact ⟨none, 0, by rw [h1, h2]⟩
  · exact ⟨_, _, h1⟩

end Go.Proofs.YtnfdbpfegmodcaaDoor
