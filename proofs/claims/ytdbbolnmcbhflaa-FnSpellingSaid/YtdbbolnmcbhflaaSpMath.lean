/-
  Plain facts: the letters of a spelling make the word; a word that is spelled can be made in a way at least.
-/
import Derived.Test.YtdbbolnmcbhflaaIsSp
import Derived.Test.YtdbbolnmcbhflaaSpCountPlain
namespace Go.Proofs.Ytdbbolnmcbhflaa
set_option linter.unusedVariables false
open Go.RowKit

theorem catL_cons (x : ByteArray) (l : List ByteArray) : catL (x :: l) = x ++ catL l := by
  unfold catL
  have key : ∀ (l : List ByteArray) (a : ByteArray), l.foldl (· ++ ·) a = a ++ l.foldl (· ++ ·) ByteArray.empty := by
    intro l
    induction l with
    | nil => intro a; simp
    | cons y l ih =>
      intro a
      simp only [List.foldl_cons]
      rw [ih (a ++ y), ih (ByteArray.empty ++ y)]
      simp [ByteArray.append_assoc]
  simp only [List.foldl_cons]
  rw [key l (ByteArray.empty ++ x)]
  simp
theorem catI_cons (xs : List ByteArray) (i : Int) (l : List Int) : catI xs (i :: l) = pickL xs i ++ catI xs l := by
  unfold catI; rw [List.map_cons, catL_cons]
theorem parts_back (xs : List ByteArray) (s : ByteArray) : letterL xs s ++ restN xs s = s := by
  have h := (nextN_le xs s).2
  unfold letterL restN
  apply ByteArray.ext
  apply Array.toList_inj.1
  rw [ByteArray.data_append, Array.toList_append]
  have h2 : s.data.toList.length = s.size := size_list s
  simp only [ByteArray.data_extract, Array.toList_extract, List.extract_eq_take_drop, Nat.sub_zero, List.drop_zero]
  rw [List.take_of_length_le (l := List.drop _ _) (by rw [List.length_drop]; omega), List.take_append_drop]
theorem look_in (xs : List ByteArray) (s : ByteArray) (h : 0 < nextN xs s) : inR xs (lookI xs (letterL xs s)) = true ∧ pickL xs (lookI xs (letterL xs s)) = letterL xs s := by
  obtain ⟨q, h1, _, h3, h4⟩ := nextI_at xs s h
  rw [h1]
  refine ⟨by unfold inR; rw [decide_eq_true (by omega), decide_eq_true (by omega)]; rfl, ?_⟩
  unfold pickL; rw [Int.toNat_natCast, h4]; rfl
theorem spell_back (xs : List ByteArray) : ∀ (n : Nat) (s : ByteArray), s.size ≤ n → spellsB xs s = true → goodI xs (idxL xs s) = true ∧ catI xs (idxL xs s) = s := by
  intro n
  induction n with
  | zero =>
    intro s hs _
    rw [idx_end xs s (by omega)]
    refine ⟨rfl, ?_⟩
    apply ByteArray.ext
    have : s.data.size = 0 := by show s.size = 0; omega
    rw [Array.eq_empty_of_size_eq_zero this]; rfl
  | succ n ih =>
    intro s hs hsp
    by_cases h0 : s.size = 0
    · rw [idx_end xs s h0]
      refine ⟨rfl, ?_⟩
      apply ByteArray.ext
      have : s.data.size = 0 := h0
      rw [Array.eq_empty_of_size_eq_zero this]; rfl
    · rcases Nat.eq_zero_or_pos (nextN xs s) with hz | hz
      · rw [spells_stop xs s hz (by omega)] at hsp; cases hsp
      · have hr := rest_size xs s
        obtain ⟨g1, g2⟩ := ih (restN xs s) (by omega) (by rw [← spells_step xs s hz]; exact hsp)
        obtain ⟨h1, h2⟩ := look_in xs s hz
        rw [idx_step xs s hz]
        refine ⟨?_, ?_⟩
        · unfold goodI at *; simp [h1, g1]
        · rw [catI_cons, h2, g2, parts_back]
theorem gsum_ge (f : Nat → Int) (i0 : Nat) : ∀ m, i0 < m → (∀ i, i < m → 0 ≤ f i) → f i0 ≤ gsum f m
  | 0, h, _ => by omega
  | m + 1, h, hf => by
    have hnn : ∀ k, k ≤ m → 0 ≤ gsum f k := by
      intro k
      induction k with
      | zero => intro _; exact Int.le_refl _
      | succ k ih => intro hk; have h1 := ih (by omega); have h2 := hf k (by omega); simp only [gsum]; omega
    simp only [gsum]
    by_cases e : i0 = m
    · subst e; have := hnn i0 (by omega); omega
    · have h1 := gsum_ge f i0 m (by omega) (fun i hi => hf i (by omega))
      have h2 := hf m (by omega)
      omega
theorem ext_ext (s : ByteArray) (a L : Nat) (h : a + L ≤ s.size) : (s.extract a s.size).extract 0 L = s.extract a (a + L) := by
  apply ByteArray.ext
  apply Array.toList_inj.1
  simp only [ByteArray.data_extract, Array.toList_extract, List.extract_eq_take_drop]
  have h2 : s.data.toList.length = s.size := size_list s
  apply List.ext_getElem?
  intro j
  simp [List.getElem?_take, List.getElem?_drop]
  by_cases hj : j < L
  · rw [if_pos hj, if_pos hj, if_pos (by omega)]
  · rw [if_neg hj, if_neg hj]
theorem back_pos (xs : List ByteArray) (s : ByteArray) : ∀ (d : Nat), d ≤ s.size → spellsB xs (s.extract (s.size - d) s.size) = true → 1 ≤ back xs s d := by
  intro d
  induction d using Nat.strongRecOn with
  | _ d ih =>
    intro hd hsp
    by_cases h0 : d = 0
    · subst h0; rw [show back xs s 0 = 1 from by unfold back; rw [fwd_eq]; simp [gsum]]; exact Int.le_refl _
    · have hsz : (s.extract (s.size - d) s.size).size = d := by rw [ext_size s _ _ (Nat.le_refl _)]; omega
      rcases Nat.eq_zero_or_pos (nextN xs (s.extract (s.size - d) s.size)) with hz | hz
      · rw [spells_stop xs _ hz (by omega)] at hsp; cases hsp
      · obtain ⟨L, hL⟩ : ∃ L, L = nextN xs (s.extract (s.size - d) s.size) := ⟨_, rfl⟩
        have hle := (nextN_le xs (s.extract (s.size - d) s.size)).2
        have hin := nextN_in xs _ hz
        rw [← hL] at hle hin hz
        rw [hsz] at hle
        rw [ext_ext s _ L (by omega)] at hin
        have hrest : restN xs (s.extract (s.size - d) s.size) = s.extract (s.size - (d - L)) s.size := by
          unfold restN
          rw [← hL, hsz]
          apply ByteArray.ext
          apply Array.toList_inj.1
          simp only [ByteArray.data_extract, Array.toList_extract, List.extract_eq_take_drop]
          have h2 : s.data.toList.length = s.size := size_list s
          apply List.ext_getElem?
          intro j
          simp only [List.getElem?_take, List.getElem?_drop]
          by_cases hj : j < d - L
          · rw [if_pos hj, if_pos (by omega), if_pos (by omega)]
            congr 1; omega
          · rw [if_neg hj, if_neg (by omega)]
        have hspr : spellsB xs (s.extract (s.size - (d - L)) s.size) = true := by rw [← hrest, ← spells_step xs _ (by rw [← hL]; exact hz)]; exact hsp
        have hb := ih (d - L) (by omega) (by omega) hspr
        have hback : back xs s d = gsum (fun i => eI xs s (s.size - d) (s.size - i) * back xs s i) d := by
          conv => lhs; unfold back; rw [fwd_eq, if_neg h0, Int.add_zero]
          rfl
        rw [hback]
        have hge := gsum_ge (fun i => eI xs s (s.size - d) (s.size - i) * back xs s i) (d - L) d (by omega) (fun i hi => by
          have h1 := (back_bd xs s i).1
          rcases eI_or xs s (s.size - d) (s.size - i) with h2 | h2 <;> rw [h2] <;> omega)
        have he : eI xs s (s.size - d) (s.size - (d - L)) = 1 := by
          unfold eI; rw [if_pos]
          rw [show s.size - (d - L) = s.size - d + L by omega]; exact hin
        simp only [he] at hge
        omega
theorem ways_pos (xs : List ByteArray) (s : ByteArray) (ha : goodB xs = true) (hsp : spellsB xs s = true) : 1 ≤ ways xs s s.size := by
  rw [ways_back xs s ha]
  refine back_pos xs s s.size (Nat.le_refl _) ?_
  rw [Nat.sub_self]
  rw [show s.extract 0 s.size = s from by simp]
  exact hsp
end Go.Proofs.Ytdbbolnmcbhflaa
