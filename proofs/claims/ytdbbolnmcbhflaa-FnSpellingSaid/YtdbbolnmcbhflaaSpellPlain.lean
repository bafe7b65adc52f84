/-
  Plain facts on spelling: no program is named here but the map's look-up value.
-/
import Derived.Test.YtdbbolnmcbhflaaDict
namespace Go.Proofs.Ytdbbolnmcbhflaa
set_option linter.unusedVariables false
open Go.RowKit

/-- The length of the longest letter with which s begins; 0 if there is none. -/
def nextN (xs : List ByteArray) (s : ByteArray) : Nat :=
  if 3 ≤ s.size ∧ s.extract 0 3 ∈ xs then 3 else if 2 ≤ s.size ∧ s.extract 0 2 ∈ xs then 2 else if 1 ≤ s.size ∧ s.extract 0 1 ∈ xs then 1 else 0
theorem nextN_le (xs : List ByteArray) (s : ByteArray) : nextN xs s ≤ 3 ∧ nextN xs s ≤ s.size := by
  unfold nextN
  split
  · omega
  · split
    · omega
    · split <;> omega
theorem nextN_in (xs : List ByteArray) (s : ByteArray) (h : 0 < nextN xs s) : s.extract 0 (nextN xs s) ∈ xs := by
  unfold nextN at *
  split
  · rename_i h1; exact h1.2
  · rename_i h1
    rw [if_neg h1] at h
    split
    · rename_i h2; exact h2.2
    · rename_i h2
      rw [if_neg h2] at h
      split
      · rename_i h3; exact h3.2
      · rename_i h3; rw [if_neg h3] at h; omega
theorem nextN_max (xs : List ByteArray) (s : ByteArray) (L : Nat) (h1 : 1 ≤ L) (h3 : L ≤ 3) (hs : L ≤ s.size) (hm : s.extract 0 L ∈ xs) : L ≤ nextN xs s := by
  unfold nextN
  rcases (show L = 1 ∨ L = 2 ∨ L = 3 by omega) with rfl | rfl | rfl
  · split
    · omega
    · split
      · omega
      · rw [if_pos ⟨hs, hm⟩]; exact Nat.le_refl _
  · split
    · omega
    · rw [if_pos ⟨hs, hm⟩]; exact Nat.le_refl _
  · rw [if_pos ⟨hs, hm⟩]; exact Nat.le_refl _
theorem nextN_at (xs : List ByteArray) (s : ByteArray) (L : Nat) (h1 : 1 ≤ L) (h3 : L ≤ 3) (hs : L ≤ s.size) (hm : s.extract 0 L ∈ xs) (hmax : ∀ M, L < M → M ≤ 3 → M ≤ s.size → s.extract 0 M ∉ xs) : nextN xs s = L := by
  have h := nextN_max xs s L h1 h3 hs hm
  have h' := nextN_le xs s
  rcases Nat.lt_or_ge L (nextN xs s) with hlt | hge
  · exact absurd (nextN_in xs s (by omega)) (hmax _ hlt h'.1 h'.2)
  · omega
theorem nextN_none (xs : List ByteArray) (s : ByteArray) (hmax : ∀ M, 0 < M → M ≤ 3 → M ≤ s.size → s.extract 0 M ∉ xs) : nextN xs s = 0 := by
  rcases Nat.eq_zero_or_pos (nextN xs s) with h | h
  · exact h
  · exact absurd (nextN_in xs s h) (hmax _ h (nextN_le xs s).1 (nextN_le xs s).2)

def letterL (xs : List ByteArray) (s : ByteArray) : ByteArray := s.extract 0 (nextN xs s)
def restN (xs : List ByteArray) (s : ByteArray) : ByteArray := s.extract (nextN xs s) s.size
theorem ext_size (s : ByteArray) (a b : Nat) (hb : b ≤ s.size) : (s.extract a b).size = b - a := by rw [ByteArray.size_extract]; omega
theorem rest_size (xs : List ByteArray) (s : ByteArray) : (restN xs s).size = s.size - nextN xs s := ext_size s _ _ (Nat.le_refl _)
theorem letter_len (xs : List ByteArray) (s : ByteArray) : (letterL xs s).size = nextN xs s := by
  have := nextN_le xs s
  unfold letterL; rw [ext_size s _ _ (by omega)]; omega

/-- What the iterator yields: the index of each letter, and what is left behind it. -/
def seqF (xs : List ByteArray) : Nat → ByteArray → List (Int × ByteArray)
  | 0, _ => []
  | f + 1, s => if nextN xs s = 0 then [] else (lookI xs (letterL xs s), restN xs s) :: seqF xs f (restN xs s)
theorem seqF_fuel (xs : List ByteArray) : ∀ (f g : Nat) (s : ByteArray), s.size ≤ f → s.size ≤ g → seqF xs f s = seqF xs g s
  | 0, 0, s, _, _ => rfl
  | 0, g + 1, s, h, _ => by have := nextN_le xs s; rw [seqF, seqF, if_pos (by omega)]
  | f + 1, 0, s, _, h => by have := nextN_le xs s; rw [seqF, seqF, if_pos (by omega)]
  | f + 1, g + 1, s, h1, h2 => by
    rw [seqF, seqF]
    by_cases h : nextN xs s = 0
    · rw [if_pos h, if_pos h]
    · rw [if_neg h, if_neg h, seqF_fuel xs f g (restN xs s) (by rw [rest_size]; omega) (by rw [rest_size]; omega)]
def seqL (xs : List ByteArray) (s : ByteArray) : List (Int × ByteArray) := seqF xs s.size s
theorem seqL_stop (xs : List ByteArray) (s : ByteArray) (h : nextN xs s = 0) : seqL xs s = [] := by
  unfold seqL
  cases hs : s.size with
  | zero => rfl
  | succ f => rw [seqF, if_pos h]
theorem seqL_step (xs : List ByteArray) (s : ByteArray) (h : 0 < nextN xs s) : seqL xs s = (lookI xs (letterL xs s), restN xs s) :: seqL xs (restN xs s) := by
  have hl := nextN_le xs s
  unfold seqL
  obtain ⟨f, hf⟩ : ∃ f, s.size = f + 1 := ⟨s.size - 1, by omega⟩
  rw [hf, seqF, if_neg (by omega), seqF_fuel xs f (restN xs s).size (restN xs s) (by rw [rest_size]; omega) (Nat.le_refl _)]
theorem seqL_len (xs : List ByteArray) : ∀ (n : Nat) (s : ByteArray), s.size ≤ n → (seqL xs s).length ≤ s.size := by
  intro n
  induction n with
  | zero => intro s h; rw [seqL_stop xs s (by have := nextN_le xs s; omega)]; exact Nat.zero_le _
  | succ n ih =>
    intro s h
    rcases Nat.eq_zero_or_pos (nextN xs s) with h0 | h0
    · rw [seqL_stop xs s h0]; exact Nat.zero_le _
    · have hl := nextN_le xs s
      have := ih (restN xs s) (by rw [rest_size]; omega)
      rw [seqL_step xs s h0, List.length_cons]
      rw [rest_size] at this; omega
/-- What is left in the end. -/
def lastR (s : ByteArray) (l : List (Int × ByteArray)) : ByteArray := (l.getLast?.map (·.2)).getD s
theorem lastR_nil (s : ByteArray) : lastR s [] = s := rfl
theorem lastR_snoc (s : ByteArray) (l : List (Int × ByteArray)) (x : Int × ByteArray) : lastR s (l ++ [x]) = x.2 := by simp [lastR]
theorem lastR_cons (s : ByteArray) (x : Int × ByteArray) (l : List (Int × ByteArray)) : lastR s (x :: l) = lastR x.2 l := by
  cases l with
  | nil => rfl
  | cons y l =>
    obtain ⟨z, hz⟩ : ∃ z, (y :: l).getLast? = some z := ⟨_, List.getLast?_eq_some_getLast (by simp)⟩
    unfold lastR
    rw [List.getLast?_cons_cons, hz]; rfl
def endL (xs : List ByteArray) (s : ByteArray) : ByteArray := lastR s (seqL xs s)
def spellsB (xs : List ByteArray) (s : ByteArray) : Bool := decide ((endL xs s).size = 0)
def idxL (xs : List ByteArray) (s : ByteArray) : List Int := (seqL xs s).map (·.1)
theorem endL_step (xs : List ByteArray) (s : ByteArray) (h : 0 < nextN xs s) : endL xs s = endL xs (restN xs s) := by
  unfold endL; rw [seqL_step xs s h, lastR_cons]
theorem endL_stop (xs : List ByteArray) (s : ByteArray) (h : nextN xs s = 0) : endL xs s = s := by unfold endL; rw [seqL_stop xs s h]; rfl
theorem spells_step (xs : List ByteArray) (s : ByteArray) (h : 0 < nextN xs s) : spellsB xs s = spellsB xs (restN xs s) := by unfold spellsB; rw [endL_step xs s h]
theorem spells_stop (xs : List ByteArray) (s : ByteArray) (h : nextN xs s = 0) (hs : 0 < s.size) : spellsB xs s = false := by unfold spellsB; rw [endL_stop xs s h]; exact decide_eq_false (by omega)
theorem spells_end (xs : List ByteArray) (s : ByteArray) (hs : s.size = 0) : spellsB xs s = true := by unfold spellsB; rw [endL_stop xs s (by have := nextN_le xs s; omega)]; exact decide_eq_true hs
theorem idx_step (xs : List ByteArray) (s : ByteArray) (h : 0 < nextN xs s) : idxL xs s = lookI xs (letterL xs s) :: idxL xs (restN xs s) := by unfold idxL; rw [seqL_step xs s h]; rfl
theorem idx_end (xs : List ByteArray) (s : ByteArray) (hs : s.size = 0) : idxL xs s = [] := by unfold idxL; rw [seqL_stop xs s (by have := nextN_le xs s; omega)]; rfl
theorem idx_len (xs : List ByteArray) (s : ByteArray) : (idxL xs s).length ≤ s.size := by unfold idxL; rw [List.length_map]; exact seqL_len xs s.size s (Nat.le_refl _)
end Go.Proofs.Ytdbbolnmcbhflaa
