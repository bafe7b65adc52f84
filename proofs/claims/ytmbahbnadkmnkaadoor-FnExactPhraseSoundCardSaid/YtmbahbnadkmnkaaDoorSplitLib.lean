/-
  The contract of strings.Split at a blank.
-/
import Derived.Test.YtmbahbnadkmnkaaDoorIsPhrase
namespace Go.Proofs.YtmbahbnadkmnkaaDoor
set_option linter.unusedVariables false
open Go.RowKit

theorem split_count (c : UInt8) : ∀ (k : Nat) (t : ByteArray), t.size ≤ k → Lib.splitB (sepB c) 0 (Lib.countB t (sepB c)) t = Lib.splitB (sepB c) 0 k t ∧ (Lib.splitB (sepB c) 0 k t).length = Lib.countB t (sepB c) + 1 := by
  intro k
  induction k with
  | zero =>
    intro t h
    rcases Lib.indexB_cases t (sepB c) with hm | ⟨i, hi, hr⟩
    · rw [Lib.splitB_miss _ _ _ _ hm, Lib.splitB_miss _ _ _ _ hm, Lib.countB_miss _ _ hm]; exact ⟨rfl, rfl⟩
    · rw [sepB_size] at hr; omega
  | succ k ih =>
    intro t h
    rcases Lib.indexB_cases t (sepB c) with hm | ⟨i, hi, hr⟩
    · rw [Lib.splitB_miss _ _ _ _ hm, Lib.splitB_miss _ _ _ _ hm, Lib.countB_miss _ _ hm]; exact ⟨rfl, rfl⟩
    · rw [sepB_size] at hr
      have hz := extract_size t (i + (sepB c).size) t.size (Nat.le_refl _)
      have h2 := ih (t.extract (i + (sepB c).size) t.size) (by rw [hz, sepB_size]; omega)
      rw [Lib.countB_hit t (sepB c) i (by rw [sepB_size]; omega) hi, Nat.add_comm 1 (Lib.countB _ _), Lib.splitB_hit _ _ _ _ i hi, Lib.splitB_hit _ _ _ _ i hi, h2.1]
      exact ⟨rfl, by simp only [List.length_cons]; rw [h2.2]⟩
theorem space_count (s : ByteArray) : Lib.splitB (sepB 32) 0 (Lib.countB s (sepB 32)) s = spaceB s ∧ (spaceB s).length = Lib.countB s (sepB 32) + 1 := split_count 32 s.size s (Nat.le_refl _)
theorem cSplitLib (s : ByteArray) (w : World) (hs : s.size ≤ 1073741824) (hsh : w.ShapedOpen Tryd.prog) :
    Calls Tryd.prog 14 #[.string s, .string (sepB 32)] w fun e w' => e = .returned (.slice (some ⟨w.heap.size, 0, none⟩) (spaceB s).length (spaceB s).length) ∧ w' = w.alloc (.cells (strV (spaceB s)).toArray 9) := by
  have h := Tryd.strings_Split_shaped s (sepB 32) w hsh (by omega) (by decide)
  have hc := space_count s
  rw [hc.1, ← hc.2] at h
  exact h
end Go.Proofs.YtmbahbnadkmnkaaDoor
