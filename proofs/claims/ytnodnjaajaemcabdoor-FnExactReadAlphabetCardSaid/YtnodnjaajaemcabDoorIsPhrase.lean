/-
  The contract of impl.IsPhrase: it returns 'phraseB s'.
-/
import Derived.Test.YtnodnjaajaemcabDoorPhrase
import Derived.Test.YtnodnjaajaemcabDoorShelf
import Derived.ChangeAgain
namespace Go.Proofs.YtnodnjaajaemcabDoor
set_option linter.unusedVariables false
open Go.RowKit

theorem shaped_below {P : Program} {w w' : World} (h : w.ShapedOpen P) (hb : Below w.heap.size w w') : w'.ShapedOpen P := h.keptBut (hb.frame (fun _ => False)) (fun _ f => f.elim)
theorem phrase_bad (s : ByteArray) (h : wordsB (spaceB s) = false) : phraseB s = false := by unfold phraseB; rw [h]; rfl
theorem phrase_ok (s : ByteArray) (h : wordsB (spaceB s) = true) : phraseB s = decide ((spaceB s).length ≤ 8) := by unfold phraseB; rw [h]; rfl

/-- What strings.SplitN at 9 gives decides whether s is a phrase. -/
theorem phrase_nine (s : ByteArray) : let Q := Lib.splitB (sepB 32) 0 (min 9 (s.size + 1) - 1) s
    phraseB s = (decide (Q.length ≤ 8) && wordsB Q) ∧ Q.length ≤ 9 := by
  intro Q
  have hl : Q.length ≤ (min 9 (s.size + 1) - 1) + 1 := Lib.splitB_length_le _ _ _ _
  refine ⟨?_, by omega⟩
  rcases split_some 32 (min 9 (s.size + 1) - 1) s.size s (by omega) with h | ⟨h1, h2⟩
  · have hq : Q = spaceB s := h
    rw [hq]; unfold phraseB; rw [Bool.and_comm]
  · have hm : min 9 (s.size + 1) - 1 = 8 := by
      by_cases e : 9 ≤ s.size + 1
      · omega
      · have e1 : min 9 (s.size + 1) - 1 = s.size := by omega
        rw [e1] at h1 h2
        omega
    rw [hm] at h1 h2
    have hq : Q.length = 9 := by show (Lib.splitB (sepB 32) 0 (min 9 (s.size + 1) - 1) s).length = 9; rw [hm]; exact h1
    have hp : (8 : Nat) < (spaceB s).length := by show 8 < (Lib.splitB (sepB 32) 0 s.size s).length; omega
    unfold phraseB
    rw [decide_eq_false (show ¬ (spaceB s).length ≤ 8 by omega), decide_eq_false (show ¬ Q.length ≤ 8 by omega)]
    simp

theorem cellsOf_at (Q : List ByteArray) (N j : Nat) (x : ByteArray) (h : Q[j]? = some x) : (Lib.cellsOf Q N)[j]? = some (.string x) := by
  have hj := (List.getElem?_eq_some_iff.1 h).1
  unfold Lib.cellsOf
  rw [List.getElem?_toArray, List.getElem?_append_left (by simpa using hj)]
  simp [h]

end Go.Proofs.YtnodnjaajaemcabDoor
