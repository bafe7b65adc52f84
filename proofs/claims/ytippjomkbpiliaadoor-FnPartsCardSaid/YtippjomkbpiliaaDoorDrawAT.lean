/-
  The contracts of spec.DrawAlphabetText and spec.DrawReadAlphabet.
-/
import Derived.Test.YtippjomkbpiliaaDoorDrawAl2
import Derived.Test.YtippjomkbpiliaaDoorDamage
import Derived.Test.YtippjomkbpiliaaDoorTexts
import Derived.Test.YtippjomkbpiliaaDoorJoin
namespace Go.Proofs.YtippjomkbpiliaaDoor
set_option linter.unusedVariables false
open Go.RowKit

theorem CodeIn.below {w w' : World} {A : Option Addr} {len : Nat} (h : CodeIn w A len) (hb : Below w.heap.size w w') : CodeIn w' A len := fun hp => by
  obtain ⟨b, o, hA, hlt, hc⟩ := h hp
  refine ⟨b, o, hA, Nat.lt_of_lt_of_le hlt hb.size, fun j hj => ?_⟩
  obtain ⟨z, h0, h1, h2⟩ := hc j hj
  exact ⟨z, h0, h1, (hb.cell (by exact hlt)).trans h2⟩
theorem below_of_src {w w1 w2 : World} (h : Below w.heap.size w w1) (hg : w1.grownBy w2 (some w.heap.size)) : Below w.heap.size w w2 := h.grown hg h.size (fun k hk => by cases hk; exact Nat.le_refl _)
theorem TRow.textAt {w : World} {lo m n c : Nat} {A : Option Addr} {xs : List ByteArray} (h : TRow w lo m n (.slice A n c) xs) : TextAt w w.heap.size A n xs :=
  ⟨h.len, fun hp => by
    obtain ⟨g, cc, hv, _, hgl⟩ := World.ownsRow.form h.1 hp
    obtain ⟨rfl, rfl⟩ : A = some ⟨g, 0, none⟩ ∧ c = cc := by injection hv with h1 h2 h3; exact ⟨h1, h3⟩
    exact ⟨g, 0, rfl, hgl, fun j x hx => by rw [Nat.zero_add]; exact (World.ownsRow.cellAt h.1 j (by have := (List.getElem?_eq_some_iff.1 hx).1; have := h.len; omega)).trans (strV_at _ _ _ hx)⟩⟩
/-- The capacity is no less than the length. -/
theorem TRow.cap {w : World} {lo m n c : Nat} {A : Option Addr} {xs : List ByteArray} (h : TRow w lo m n (.slice A n c) xs) : n ≤ c := by
  rcases h.1.2 with ⟨h1, h2⟩ | ⟨g1, cap1, cur, h1, h2, h3, h4, _⟩
  · omega
  · injection h1 with e1 e2 e3; omega
def RowsPost (w : World) (e : Ending) (w' : World) : Prop := ∃ (A : Option Addr) (n c : Nat) (xs : List ByteArray), n ≤ 60 ∧ n ≤ c ∧ (∀ x ∈ xs, x.size ≤ maxLen) ∧ e = .returned (.slice A n c) ∧ TextAt w' w'.heap.size A n xs ∧ Below w.heap.size w w'
def StrPost (w : World) (e : Ending) (w' : World) : Prop := ∃ t : ByteArray, t.size ≤ 1000000 ∧ e = .returned (.string t) ∧ Below w.heap.size w w'

theorem joinB_size (xs : List ByteArray) (h : ∀ x ∈ xs, x.size ≤ 64) : (joinB xs).size ≤ xs.length * 65 := by
  have h1 := join_len (xs.map (·.data.toList)) (by
    intro y hy
    rw [List.mem_map] at hy
    obtain ⟨z, hz, rfl⟩ := hy
    have h2 := h z hz
    have h3 := size_list z
    omega)
  rw [List.length_map] at h1
  have h2 := size_list (joinB xs)
  rw [joinB_data] at h2
  omega

end Go.Proofs.YtippjomkbpiliaaDoor
