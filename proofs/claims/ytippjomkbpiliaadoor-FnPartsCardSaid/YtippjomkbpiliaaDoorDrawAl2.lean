/-
  The contract of spec.l03Draw: a drawn alphabet, or another list of short texts.
-/
import Derived.Test.YtippjomkbpiliaaDoorDrawAl
namespace Go.Proofs.YtippjomkbpiliaaDoor
set_option linter.unusedVariables false
open Go.RowKit

theorem TRow.cut0 {w : World} {lo m n : Nat} {A : Option Addr} {c : Nat} {xs : List ByteArray} (h : TRow w lo m n (.slice A n c) xs) : TRow w lo m 0 (.slice A 0 c) [] := by
  refine ⟨⟨rfl, ?_⟩, by simp⟩
  rcases h.1.2 with ⟨h1, h2⟩ | ⟨g1, cap1, cur, h1, h2, h3, h4, h5, h6, h7⟩
  · injection h1 with e1 e2 e3
    rw [e1, e3]; exact .inl ⟨rfl, rfl⟩
  · injection h1 with e1 e2 e3
    rw [e1, e3]; exact .inr ⟨g1, cap1, cur, rfl, h2, h3, Nat.zero_le _, h5, h6, by simp [strV]⟩
theorem TRow.set0 {w : World} {lo m n g c : Nat} {xs : List ByteArray} {y : ByteArray} (h : TRow w lo m n (.slice (some ⟨g, 0, none⟩) n c) xs) (hy : y.size ≤ m) : TRow (w.setCell ⟨g, 0, none⟩ (.string y)) lo m n (.slice (some ⟨g, 0, none⟩) n c) (xs.set 0 y) := by
  refine ⟨?_, fun x hx => ?_⟩
  · have := (h.1.stored 0 (.string y)).1
    rw [show strV (xs.set 0 y) = (strV xs).set 0 (.string y) from by simp [strV, List.map_set]]
    exact this
  · rcases List.mem_or_eq_of_mem_set hx with h1 | h1
    · exact h.2 x h1
    · rw [h1]; exact hy
def lit4 : Array Value := #[.string ⟨#[]⟩, .string ⟨#[97, 98, 99, 100]⟩, .string ⟨#[65]⟩, .string ⟨#[122, 122, 122]⟩]
theorem row4 (w : World) : TextRow (w.alloc (.cells #[.string ⟨#[]⟩, .string ⟨#[97, 98, 99, 100]⟩, .string ⟨#[65]⟩, .string ⟨#[122, 122, 122]⟩] 9)) w.heap.size 4 4 := by
  refine ⟨by simp, fun j hj => ?_⟩
  rw [World.cell?_alloc_at _ _ _ _ rfl]
  have h : j = 0 ∨ j = 1 ∨ j = 2 ∨ j = 3 := by omega
  rcases h with rfl | rfl | rfl | rfl
  all_goals exact ⟨_, by decide, rfl⟩

end Go.Proofs.YtippjomkbpiliaaDoor
