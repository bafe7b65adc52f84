/-
  Plain facts on lists that are strictly increasing: what slices.Sort and slices.Compact make, and what inserting makes.
-/
import Derived.Test.YtkbkgbhnfopgnaaDoorAlphaPlain
import Derived.Lib.SlicesCompact
import Derived.Sort.OwnSorted
import Derived.Sort.OwnSortedInts
import Derived.Lib.RowBridge
import Derived.Sort.Walk0
namespace Go.Proofs.YtkbkgbhnfopgnaaDoor
set_option linter.unusedVariables false
open Go.RowKit

section
variable {α : Type}
theorem set_unique (lt : α → α → Prop) (irr : ∀ a, ¬ lt a a) (tr : ∀ a b c, lt a b → lt b c → lt a c) : ∀ (xs ys : List α), xs.Pairwise lt → ys.Pairwise lt → (∀ x, x ∈ xs ↔ x ∈ ys) → xs = ys
  | [], [], _, _, _ => rfl
  | [], y :: ys, _, _, h => by have := (h y).2 (by simp); simp at this
  | x :: xs, [], _, _, h => by have := (h x).1 (by simp); simp at this
  | x :: xs, y :: ys, hx, hy, h => by
    rw [List.pairwise_cons] at hx hy
    have e : x = y := by
      rcases List.mem_cons.1 ((h x).1 (by simp)) with h1 | h1
      · exact h1
      · rcases List.mem_cons.1 ((h y).2 (by simp)) with h2 | h2
        · exact h2.symm
        · exact absurd (tr _ _ _ (hy.1 x h1) (hx.1 y h2)) (irr y)
    subst e
    congr 1
    refine set_unique lt irr tr xs ys hx.2 hy.2 fun z => ⟨fun hz => ?_, fun hz => ?_⟩
    · rcases List.mem_cons.1 ((h z).1 (List.mem_cons_of_mem _ hz)) with h1 | h1
      · subst h1; exact absurd (hx.1 z hz) (irr z)
      · exact h1
    · rcases List.mem_cons.1 ((h z).2 (List.mem_cons_of_mem _ hz)) with h1 | h1
      · subst h1; exact absurd (hy.1 z hz) (irr z)
      · exact h1
variable [Inhabited α] [DecidableEq α]
theorem compact_set (lt le : α → α → Prop) (h1 : ∀ x a b, le x a → lt a b → lt x b) (h2 : ∀ a b, le a b → a ≠ b → lt a b) (h3 : ∀ a, le a a) (h4 : ∀ a b, lt a b → le a b) (zs : List α) (hs : zs.Pairwise le) :
    (Lib.compact zs).Pairwise lt ∧ ∀ x, x ∈ Lib.compact zs ↔ x ∈ zs := by
  have key : ∀ m, m ≤ zs.length → (Lib.compactUpTo zs.toArray m).Pairwise lt ∧ (∀ x, x ∈ Lib.compactUpTo zs.toArray m ↔ x ∈ zs.take m) ∧ (∀ x ∈ Lib.compactUpTo zs.toArray m, ∀ y, 0 < m → zs[m - 1]? = some y → le x y) := by
    intro m
    induction m with
    | zero => intro _; exact ⟨by simp [Lib.compactUpTo], by simp [Lib.compactUpTo], by simp [Lib.compactUpTo]⟩
    | succ m ih =>
      intro hm
      obtain ⟨i1, i2, i3⟩ := ih (by omega)
      have hml : m < zs.length := by omega
      have hd : zs.toArray[m]! = zs[m] := by simp [getElem!_pos, hml]
      have ht : zs.take (m + 1) = zs.take m ++ [zs[m]] := List.take_succ_eq_append_getElem hml
      rw [Lib.compactUpTo_succ, hd, ht]
      have hg : zs[m + 1 - 1]? = some zs[m] := by simp [hml]
      cases hk : Lib.keeps zs.toArray m
      · have hk2 : ¬ (m = 0 ∨ zs.toArray[m]! ≠ zs.toArray[m - 1]!) := by unfold Lib.keeps at hk; simpa using hk
        have hm0 : ¬ m = 0 := fun e => hk2 (.inl e)
        have hpl : m - 1 < zs.length := by omega
        have he : zs[m] = zs[m - 1] := by
          have h9 : zs.toArray[m]! = zs.toArray[m - 1]! := Classical.byContradiction fun h => hk2 (.inr h)
          rw [hd] at h9
          rw [h9]; simp [getElem!_pos, hpl]
        have hin : zs[m] ∈ zs.take m := by
          rw [he]
          apply List.mem_of_getElem? (i := m - 1)
          rw [List.getElem?_take, if_pos (by omega)]; simp [hpl]
        simp only [Bool.false_eq_true, if_false, List.append_nil]
        refine ⟨i1, fun x => ?_, fun x hx y _ hy => ?_⟩
        · rw [i2, List.mem_append, List.mem_singleton]
          constructor
          · exact .inl
          · rintro (h | h)
            · exact h
            · rw [h]; exact hin
        · rw [hg] at hy
          cases hy
          rw [he]
          exact i3 x hx _ (by omega) (by simp [hpl])
      · have hk2 : m = 0 ∨ zs.toArray[m]! ≠ zs.toArray[m - 1]! := by unfold Lib.keeps at hk; simpa using hk
        have hlt : ∀ x ∈ Lib.compactUpTo zs.toArray m, lt x zs[m] := fun x hx => by
          rcases hk2 with e | hne
          · subst e; have := (i2 x).1 hx; simp at this
          · by_cases hm0 : m = 0
            · subst hm0; have := (i2 x).1 hx; simp at this
            · have hpl : m - 1 < zs.length := by omega
              have hq : zs.toArray[m - 1]! = zs[m - 1] := by simp [getElem!_pos, hpl]
              rw [hd, hq] at hne
              have hle : le zs[m - 1] zs[m] := List.pairwise_iff_getElem.1 hs (m - 1) m hpl hml (by omega)
              exact h1 _ _ _ (i3 x hx _ (by omega) (by simp [hpl])) (h2 _ _ hle (fun e => hne e.symm))
        simp only [if_true]
        refine ⟨?_, fun x => ?_, fun x hx y _ hy => ?_⟩
        · rw [List.pairwise_append]
          exact ⟨i1, by simp, fun a ha b hb => by rw [List.mem_singleton] at hb; subst hb; exact hlt a ha⟩
        · rw [List.mem_append, List.mem_append, i2]
        · rw [hg] at hy
          cases hy
          rw [List.mem_append, List.mem_singleton] at hx
          rcases hx with hx | rfl
          · exact h4 _ _ (hlt x hx)
          · exact h3 _
  obtain ⟨k1, k2, _⟩ := key zs.length (Nat.le_refl _)
  refine ⟨k1, fun x => ?_⟩
  have := k2 x
  rw [List.take_length] at this
  exact this
end

/-- Texts as lists of bytes, and back. -/
def toL (xs : List ByteArray) : List (List UInt8) := xs.map fun s => s.data.toList
def ofL (ls : List (List UInt8)) : List ByteArray := ls.map fun l => ⟨l.toArray⟩
theorem ofL_toL (xs : List ByteArray) : ofL (toL xs) = xs := by
  unfold ofL toL; rw [List.map_map]
  conv => rhs; rw [← List.map_id xs]
  apply List.map_congr_left
  intro x _
  rfl
theorem mem_ofL (ls : List (List UInt8)) (x : ByteArray) : x ∈ ofL ls ↔ x.data.toList ∈ ls := by
  unfold ofL
  rw [List.mem_map]
  constructor
  · rintro ⟨l, hl, rfl⟩; exact hl
  · intro h; exact ⟨_, h, rfl⟩
def ltT (a b : ByteArray) : Prop := a.data.toList < b.data.toList
theorem ltT_irr (a : ByteArray) : ¬ ltT a a := List.lt_irrefl _
theorem ltT_tr (a b c : ByteArray) (h : ltT a b) (k : ltT b c) : ltT a c := List.lt_trans h k
theorem ltT_tri (a b : ByteArray) (h : ¬ ltT a b) (hne : a ≠ b) : ltT b a := by
  unfold ltT at *
  have h1 : b.data.toList ≤ a.data.toList := List.not_lt.1 h
  by_cases h2 : b.data.toList < a.data.toList
  · exact h2
  · exact absurd (ByteArray.ext (Array.toList_inj.1 (List.le_antisymm (List.not_lt.1 h2) h1))) hne
theorem less_dec (a b : ByteArray) : Op.bytesLess a.toList b.toList = decide (a.data.toList < b.data.toList) := by
  rw [bytesLess_eq, ByteArray.toList_eq, ByteArray.toList_eq]

/-- The texts of ys in alphabetical order, each once. -/
def setT (ys : List ByteArray) : List ByteArray := ofL (Lib.compact ((toL ys).mergeSort fun x y => decide (x ≤ y)))
def IsSetT (zs ys : List ByteArray) : Prop := zs.Pairwise ltT ∧ ∀ x, x ∈ zs ↔ x ∈ ys
theorem setT_is (ys : List ByteArray) : IsSetT (setT ys) ys := by
  have hp : ((toL ys).mergeSort fun x y => decide (x ≤ y)).Pairwise fun a b : List UInt8 => a ≤ b := by
    have := List.pairwise_mergeSort (le := fun (x y : List UInt8) => decide (x ≤ y)) (fun a b c h1 h2 => by simp only [decide_eq_true_eq] at *; exact List.le_trans h1 h2) (fun a b => by simp only [Bool.or_eq_true, decide_eq_true_eq]; exact List.le_total a b) (toL ys)
    exact this.imp fun h => by simpa using h
  obtain ⟨h1, h2⟩ := compact_set (fun a b : List UInt8 => a < b) (fun a b => a ≤ b) (fun x a b h k => List.lt_of_le_of_lt h k) (fun a b h hne => by
    by_cases k : a < b
    · exact k
    · exact absurd (List.le_antisymm h (List.not_lt.1 k)) hne) (fun a => List.le_refl a) (fun a b h => List.le_of_lt h) _ hp
  refine ⟨?_, fun x => ?_⟩
  · unfold setT ofL
    rw [List.pairwise_map]
    exact h1
  · unfold setT
    rw [mem_ofL, h2, List.mem_mergeSort]
    unfold toL
    rw [List.mem_map]
    constructor
    · rintro ⟨s, hs, e⟩
      rw [← show s = x from ByteArray.ext (Array.toList_inj.1 e)]; exact hs
    · intro h; exact ⟨x, h, rfl⟩
theorem setT_unique {zs zs' ys : List ByteArray} (h : IsSetT zs ys) (k : IsSetT zs' ys) : zs = zs' := set_unique ltT ltT_irr ltT_tr zs zs' h.1 k.1 fun x => (h.2 x).trans (k.2 x).symm
theorem setT_eq {zs ys : List ByteArray} (h : IsSetT zs ys) : zs = setT ys := setT_unique h (setT_is ys)
theorem setT_len (ys : List ByteArray) : (setT ys).length ≤ ys.length := by
  unfold setT ofL
  rw [List.length_map]
  refine Nat.le_trans (Lib.compact_length_le _) ?_
  rw [List.length_mergeSort]; unfold toL; rw [List.length_map]; exact Nat.le_refl _
theorem setT_nil : setT [] = [] := (setT_eq (ys := []) ⟨List.Pairwise.nil, by simp⟩).symm

/-- What is put into a list at the place k. -/
theorem ins_at {xs ys : List ByteArray} {s : ByteArray} {k : Nat} (h : IsSetT xs ys) (hk : k ≤ xs.length) (h1 : ∀ x ∈ xs.take k, ltT x s) (h2 : ∀ x, xs[k]? = some x → ¬ ltT x s ∧ x ≠ s) : IsSetT (xs.take k ++ [s] ++ xs.drop k) (ys ++ [s]) := by
  have hall : ∀ x ∈ xs.drop k, ltT s x := fun x hx => by
    by_cases hkl : k < xs.length
    · have hy := h2 xs[k] (List.getElem?_eq_getElem hkl)
      have hsy := ltT_tri _ _ hy.1 hy.2
      rw [List.drop_eq_getElem_cons hkl, List.mem_cons] at hx
      rcases hx with rfl | hx
      · exact hsy
      · obtain ⟨j, hj, rfl⟩ := List.mem_iff_getElem.1 hx
        rw [List.length_drop] at hj
        rw [List.getElem_drop]
        exact ltT_tr _ _ _ hsy (List.pairwise_iff_getElem.1 h.1 k (k + 1 + j) hkl (by omega) (by omega))
    · rw [List.drop_of_length_le (by omega)] at hx; simp at hx
  have hsp : xs = xs.take k ++ xs.drop k := (List.take_append_drop k xs).symm
  have hpw := h.1
  rw [hsp, List.pairwise_append] at hpw
  refine ⟨?_, fun x => ?_⟩
  · rw [List.append_assoc, List.pairwise_append]
    refine ⟨hpw.1, ?_, fun a ha b hb => ?_⟩
    · rw [List.singleton_append, List.pairwise_cons]
      exact ⟨hall, hpw.2.1⟩
    · rw [List.singleton_append, List.mem_cons] at hb
      rcases hb with rfl | hb
      · exact h1 a ha
      · exact hpw.2.2 a ha b hb
  · rw [List.mem_append, List.mem_append, List.mem_append, List.mem_singleton, ← h.2 x]
    constructor
    · rintro ((h3 | h3) | h3)
      · exact .inl (List.mem_of_mem_take h3)
      · exact .inr h3
      · exact .inl (List.mem_of_mem_drop h3)
    · rintro (h3 | h3)
      · rw [hsp, List.mem_append] at h3
        rcases h3 with h3 | h3
        · exact .inl (.inl h3)
        · exact .inr h3
      · exact .inl (.inr h3)
theorem ins_in {xs ys : List ByteArray} {s : ByteArray} {k : Nat} (h : IsSetT xs ys) (hk : xs[k]? = some s) : IsSetT xs (ys ++ [s]) :=
  ⟨h.1, fun x => by
    rw [List.mem_append, List.mem_singleton, ← h.2 x]
    constructor
    · exact .inl
    · rintro (h1 | rfl)
      · exact h1
      · exact List.mem_of_getElem? hk⟩

/-- The numbers of ys ascending, each once. -/
def setI (ys : List Int) : List Int := Lib.compact (ys.mergeSort fun x y => decide (x ≤ y))
def IsSetI (zs ys : List Int) : Prop := zs.Pairwise (fun a b : Int => a < b) ∧ ∀ x, x ∈ zs ↔ x ∈ ys
theorem setI_is (ys : List Int) : IsSetI (setI ys) ys := by
  have hp : (ys.mergeSort fun x y => decide (x ≤ y)).Pairwise fun a b : Int => a ≤ b := by
    have := List.pairwise_mergeSort (le := fun (x y : Int) => decide (x ≤ y)) (fun a b c h1 h2 => by simp only [decide_eq_true_eq] at *; omega) (fun a b => by simp only [Bool.or_eq_true, decide_eq_true_eq]; omega) ys
    exact this.imp fun h => by simpa using h
  obtain ⟨h1, h2⟩ := compact_set (fun a b : Int => a < b) (fun a b => a ≤ b) (fun x a b h k => by omega) (fun a b h hne => by omega) (fun a => by omega) (fun a b h => by omega) _ hp
  exact ⟨h1, fun x => by unfold setI; rw [h2, List.mem_mergeSort]⟩
theorem setI_eq {zs ys : List Int} (h : IsSetI zs ys) : zs = setI ys := set_unique (fun a b : Int => a < b) (fun a => by omega) (fun a b c h k => by omega) zs _ h.1 (setI_is ys).1 fun x => (h.2 x).trans ((setI_is ys).2 x).symm
theorem setI_len (ys : List Int) : (setI ys).length ≤ ys.length := by
  unfold setI
  refine Nat.le_trans (Lib.compact_length_le _) ?_
  rw [List.length_mergeSort]; exact Nat.le_refl _
theorem setI_nil : setI [] = [] := (setI_eq (ys := []) ⟨List.Pairwise.nil, by simp⟩).symm
end Go.Proofs.YtkbkgbhnfopgnaaDoor
