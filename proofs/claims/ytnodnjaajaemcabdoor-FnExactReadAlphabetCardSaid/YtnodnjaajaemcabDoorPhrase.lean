/-
  The contracts of spec.l01Phrase and spec.IsPhrase. 'phraseB s': at most 8 pieces between blanks, each a word.
-/
import Derived.Test.YtnodnjaajaemcabDoorSplit
namespace Go.Proofs.YtnodnjaajaemcabDoor
set_option linter.unusedVariables false
open Go.RowKit

def spaceB (s : ByteArray) : List ByteArray := piecesB 32 s
def phraseB (s : ByteArray) : Bool := wordsB (spaceB s) && decide ((spaceB s).length ≤ 8)
theorem piece_size (c : UInt8) (k : Nat) : ∀ (s x : ByteArray), x ∈ Lib.splitB (sepB c) 0 k s → x.size ≤ s.size := by
  induction k with
  | zero => intro s x h; simp [Lib.splitB] at h; subst h; exact Nat.le_refl _
  | succ k ih =>
    intro s x h
    rcases Lib.indexB_cases s (sepB c) with hm | ⟨i, hi, hr⟩
    · rw [Lib.splitB_miss _ _ _ _ hm] at h; simp at h; subst h; exact Nat.le_refl _
    · rw [Lib.splitB_hit _ _ _ _ i hi, List.mem_cons] at h
      rcases h with h | h
      · subst h; rw [ByteArray.size_extract]; omega
      · have := ih _ _ h
        rw [ByteArray.size_extract] at this; omega

end Go.Proofs.YtnodnjaajaemcabDoor
