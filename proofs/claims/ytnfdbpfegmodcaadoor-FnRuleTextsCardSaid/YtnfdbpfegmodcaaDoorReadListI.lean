/-
  The contract of impl.ReadList.
-/
import Derived.Test.YtnfdbpfegmodcaaDoorReadN
namespace Go.Proofs.YtnfdbpfegmodcaaDoor
set_option linter.unusedVariables false
open Go.RowKit

theorem shaped_below2 {P : Program} {w w' : World} (h : w.ShapedOpen P) (hb : Below w.heap.size w w') : w'.ShapedOpen P := h.keptBut (hb.frame (fun _ => False)) (fun _ f => f.elim)
def dash : ByteArray := ⟨#[45]⟩
/-- What reading s as a list gives: the list xs and the code c. -/
def RL (s : ByteArray) (xs : List Int) (c : Int) : Prop :=
  (s = dash ∧ xs = [] ∧ c = 0) ∨ (s ≠ dash ∧ 0 < xs.length ∧ xs.length ≤ 60 ∧ okAll xs = true ∧ s = comB (nums xs) ∧ c = 0) ∨
  (s ≠ dash ∧ (∀ ys, 0 < ys.length → ys.length ≤ 60 → okAll ys = true → s ≠ comB (nums ys)) ∧ xs = [] ∧ c = 6)
theorem RL.have_ (s : ByteArray) : ∃ xs c, RL s xs c := by
  by_cases h : s = dash
  · exact ⟨[], 0, .inl ⟨h, rfl, rfl⟩⟩
  · by_cases h2 : ∃ ys : List Int, 0 < ys.length ∧ ys.length ≤ 60 ∧ okAll ys = true ∧ s = comB (nums ys)
    · obtain ⟨ys, h3, h4, h5, h6⟩ := h2
      exact ⟨ys, 0, .inr (.inl ⟨h, h3, h4, h5, h6, rfl⟩)⟩
    · exact ⟨[], 6, .inr (.inr ⟨h, fun ys a b c d => h2 ⟨ys, a, b, c, d⟩, rfl, rfl⟩)⟩
theorem RL.len {s : ByteArray} {xs : List Int} {c : Int} (h : RL s xs c) : xs.length ≤ 60 := by
  rcases h with ⟨_, rfl, _⟩ | ⟨_, _, h, _⟩ | ⟨_, _, rfl, _⟩
  · exact Nat.zero_le _
  · exact h
  · exact Nat.zero_le _
def RLPost (xs : List Int) (c : Int) (w : World) (e : Ending) (w' : World) : Prop :=
  ∃ A cap, e = .returned (.tuple #[.slice A xs.length cap, .int .i64 c]) ∧ w'.ownsRow w.heap.size 2 1 (.slice A xs.length cap) xs.length (intV xs) ∧ Below w.heap.size w w'
theorem RLPost.nul {c : Int} {w w' : World} (hb : Below w.heap.size w w') : RLPost [] c w (.returned (.tuple #[.slice none 0 0, .int .i64 c])) w' :=
  ⟨none, 0, rfl, World.ownsRow_nil _ _ _ _, hb⟩
theorem ok_64 {xs : List Int} (h : okAll xs = true) : In64 xs := fun x hx => by have := okAll_mem xs h x hx; omega
theorem com_inj {xs ys : List Int} (h1 : In64 xs) (h2 : In64 ys) (p1 : 0 < xs.length) (p2 : 0 < ys.length) (h : comB (nums xs) = comB (nums ys)) : xs = ys := by
  have e1 := pieces_nums 44 noS_44 xs p1
  have e2 := pieces_nums 44 noS_44 ys p2
  rw [show jB 44 (nums xs) = jB 44 (nums ys) from h, e2] at e1
  have r1 := read_nums2 h1
  have r2 := read_nums2 h2
  rw [← e1, r2] at r1
  exact (somes_inj r1).symm

theorem RNPost.no {w w' : World} {e : Ending} (h : RNPost none w e w') : e = .returned (.tuple #[.slice none 0 0, .bool false]) ∧ Below w.heap.size w w' := by
  rcases h with ⟨_, h1, h2⟩ | ⟨vs, g, c, h0, _⟩
  · exact ⟨h1, h2⟩
  · cases h0
theorem RNPost.yes {vs : List Int} {w w' : World} {e : Ending} (h : RNPost (some vs) w e w') : ∃ g c, e = .returned (.tuple #[.slice (some ⟨g, 0, none⟩) vs.length c, .bool true]) ∧ w'.ownsRow w.heap.size 2 1 (.slice (some ⟨g, 0, none⟩) vs.length c) vs.length (intV vs) ∧ Below w.heap.size w w' := by
  rcases h with ⟨h0, _⟩ | ⟨us, g, c, h0, h1, h2, h3⟩
  · cases h0
  · cases h0; exact ⟨g, c, h1, h2, h3⟩
end Go.Proofs.YtnfdbpfegmodcaaDoor
