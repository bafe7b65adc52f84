/-
  Plain facts on cutting a text at every occurrence of one byte. 'piecesB c s': all pieces, in order.
-/
import Derived.Test.YtkbkgbhnfopgnaaDoorMq1
import Derived.Lib.Split
namespace Go.Proofs.YtkbkgbhnfopgnaaDoor
set_option linter.unusedVariables false

def sepB (c : UInt8) : ByteArray := ⟨#[c]⟩
theorem sepB_size (c : UInt8) : (sepB c).size = 1 := rfl
def piecesB (c : UInt8) (s : ByteArray) : List ByteArray := Lib.splitB (sepB c) 0 s.size s

theorem occ_one (l : List UInt8) (c : UInt8) (i : Nat) : Lib.occAt l [c] i = decide (l[i]? = some c) := by
  unfold Lib.occAt
  rw [← List.head?_drop]
  cases h : l.drop i with
  | nil => simp [List.isPrefixOf]
  | cons x r =>
    show (c == x && true) = decide (some x = some c)
    rw [Bool.and_true, Bool.eq_iff_iff, beq_iff_eq, decide_eq_true_eq, Option.some.injEq]
    exact eq_comm
theorem size_list (s : ByteArray) : s.data.toList.length = s.size := by simp
theorem extract_get (s : ByteArray) (a b j : Nat) (hb : b ≤ s.size) (h : a + j < b) : (s.extract a b).data.toList[j]? = s.data.toList[a + j]? := by
  rw [Lib.extract_data]
  simp [List.getElem?_take, List.getElem?_drop]
  omega
theorem extract_size (s : ByteArray) (a b : Nat) (hb : b ≤ s.size) : (s.extract a b).size = b - a := by
  rw [ByteArray.size_extract]; omega
theorem index_hit (s : ByteArray) (c : UInt8) (a i : Nat) (ha : a ≤ i) (hi : i < s.size) (hc : s[i] = c) (hn : ∀ j, a ≤ j → j < i → s.data.toList[j]? ≠ some c) :
    Lib.indexB (s.extract a s.size) (sepB c) = ((i - a : Nat) : Int) := by
  show Lib.index _ [c] = _
  have hz := extract_size s a s.size (Nat.le_refl _)
  have hl : (s.extract a s.size).data.toList.length = s.size - a := (size_list _).trans hz
  refine Lib.index_first (by omega) ?_ ?_
  · rw [occ_one, extract_get s a s.size _ (Nat.le_refl _) (by omega), show a + (i - a) = i by omega, List.getElem?_eq_getElem (by simpa using hi)]
    simp only [decide_eq_true_eq, Option.some.injEq]; exact hc
  · intro j hj
    rw [occ_one, extract_get s a s.size _ (Nat.le_refl _) (by omega)]
    exact decide_eq_false (hn (a + j) (by omega) (by omega))
theorem index_miss (s : ByteArray) (c : UInt8) (a : Nat) (ha : a ≤ s.size) (hn : ∀ j, a ≤ j → j < s.size → s.data.toList[j]? ≠ some c) :
    Lib.indexB (s.extract a s.size) (sepB c) = -1 := by
  show Lib.index _ [c] = _
  have hz := extract_size s a s.size (Nat.le_refl _)
  have hl : (s.extract a s.size).data.toList.length = s.size - a := (size_list _).trans hz
  refine Lib.index_none (fun j hj => ?_)
  rw [occ_one]
  by_cases h : a + j < s.size
  · rw [extract_get s a s.size _ (Nat.le_refl _) h]
    exact decide_eq_false (hn (a + j) (by omega) h)
  · rw [List.getElem?_eq_none (by omega)]; rfl

theorem split_fuel (c : UInt8) : ∀ (k k' : Nat) (t : ByteArray), t.size ≤ k → t.size ≤ k' → Lib.splitB (sepB c) 0 k t = Lib.splitB (sepB c) 0 k' t := by
  intro k
  induction k with
  | zero =>
    intro k' t h h'
    rcases Lib.indexB_cases t (sepB c) with hm | ⟨i, hi, hr⟩
    · rw [Lib.splitB_miss _ _ _ _ hm, Lib.splitB_miss _ _ _ _ hm]
    · rw [sepB_size] at hr; omega
  | succ k ih =>
    intro k' t h h'
    rcases Lib.indexB_cases t (sepB c) with hm | ⟨i, hi, hr⟩
    · rw [Lib.splitB_miss _ _ _ _ hm, Lib.splitB_miss _ _ _ _ hm]
    · rw [sepB_size] at hr
      cases k' with
      | zero => omega
      | succ k' =>
        rw [Lib.splitB_hit _ _ _ _ i hi, Lib.splitB_hit _ _ _ _ i hi]
        have hz := extract_size t (i + (sepB c).size) t.size (Nat.le_refl _)
        rw [sepB_size] at hz ⊢
        rw [ih k' (t.extract (i + 1) t.size) (by omega) (by omega)]
theorem split_some (c : UInt8) : ∀ (m n : Nat) (t : ByteArray), m ≤ n → Lib.splitB (sepB c) 0 m t = Lib.splitB (sepB c) 0 n t ∨ ((Lib.splitB (sepB c) 0 m t).length = m + 1 ∧ m + 1 < (Lib.splitB (sepB c) 0 n t).length) := by
  intro m
  induction m with
  | zero =>
    intro n t h
    cases n with
    | zero => exact .inl rfl
    | succ n =>
      rcases Lib.indexB_cases t (sepB c) with hm | ⟨i, hi, hr⟩
      · rw [Lib.splitB_miss _ _ _ _ hm, Lib.splitB_miss _ _ _ _ hm]; exact .inl rfl
      · right
        rw [Lib.splitB_hit _ _ _ _ i hi]
        refine ⟨rfl, ?_⟩
        cases hq : Lib.splitB (sepB c) 0 n (t.extract (i + (sepB c).size) t.size) with
        | nil => cases n <;> simp [Lib.splitB] at hq; split at hq <;> cases hq
        | cons x r => simp
  | succ m ih =>
    intro n t h
    cases n with
    | zero => omega
    | succ n =>
      rcases Lib.indexB_cases t (sepB c) with hm | ⟨i, hi, hr⟩
      · rw [Lib.splitB_miss _ _ _ _ hm, Lib.splitB_miss _ _ _ _ hm]; exact .inl rfl
      · rw [Lib.splitB_hit _ _ _ _ i hi, Lib.splitB_hit _ _ _ _ i hi]
        rcases ih n (t.extract (i + (sepB c).size) t.size) (by omega) with he | ⟨h1, h2⟩
        · exact .inl (by rw [he])
        · right; simp only [List.length_cons]; omega

/-- What is left of the pieces from place a on. -/
def restB (c : UInt8) (s : ByteArray) (a : Nat) : List ByteArray := Lib.splitB (sepB c) 0 (s.size - a) (s.extract a s.size)
theorem extract_all (s : ByteArray) : s.extract 0 s.size = s := by
  apply ByteArray.ext
  rw [ByteArray.data_extract]
  simp
theorem rest_zero (c : UInt8) (s : ByteArray) : restB c s 0 = piecesB c s := by
  unfold restB piecesB; rw [extract_all]; rfl
theorem extract_extract (s : ByteArray) (a b d e : Nat) (hb : b ≤ s.size) (he : a + e ≤ b) : (s.extract a b).extract d e = s.extract (a + d) (a + e) := by
  apply ByteArray.ext
  simp only [ByteArray.data_extract, Array.extract_extract]
  congr 1; omega
theorem rest_hit (c : UInt8) (s : ByteArray) (a i : Nat) (ha : a ≤ i) (hi : i < s.size) (hc : s[i] = c) (hn : ∀ j, a ≤ j → j < i → s.data.toList[j]? ≠ some c) :
    restB c s a = s.extract a i :: restB c s (i + 1) := by
  have hx := index_hit s c a i ha hi hc hn
  unfold restB
  obtain ⟨k, hk⟩ : ∃ k, s.size - a = k + 1 := ⟨s.size - a - 1, by omega⟩
  have hz := extract_size s a s.size (Nat.le_refl _)
  rw [hk, Lib.splitB_hit _ _ _ _ (i - a) hx, sepB_size, hz, extract_extract s a s.size 0 _ (Nat.le_refl _) (by omega), extract_extract s a s.size _ _ (Nat.le_refl _) (by omega)]
  congr 1
  · congr 1; omega
  · rw [show a + (i - a + 1) = i + 1 by omega, show a + (s.size - a) = s.size by omega]
    exact split_fuel c _ _ _ (by rw [extract_size _ _ _ (Nat.le_refl _)]; omega) (by rw [extract_size _ _ _ (Nat.le_refl _)]; omega)
theorem rest_end (c : UInt8) (s : ByteArray) (a : Nat) (ha : a ≤ s.size) (hn : ∀ j, a ≤ j → j < s.size → s.data.toList[j]? ≠ some c) : restB c s a = [s.extract a s.size] := by
  unfold restB; exact Lib.splitB_miss _ _ _ _ (index_miss s c a ha hn)
theorem pieces_len (c : UInt8) (s : ByteArray) : (piecesB c s).length ≤ s.size + 1 := Lib.splitB_length_le _ _ _ _
theorem rest_pos (c : UInt8) (s : ByteArray) (a : Nat) : 0 < (restB c s a).length := by
  unfold restB
  cases s.size - a with
  | zero => simp [Lib.splitB]
  | succ n => unfold Lib.splitB; split <;> simp
end Go.Proofs.YtkbkgbhnfopgnaaDoor
