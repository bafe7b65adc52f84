/-
  The order of phrases word by word is the order of their keys.
-/
import Derived.Test.YtjockiedganokaaDoorKeyTexts
namespace Go.Proofs.YtjockiedganokaaDoor
set_option linter.unusedVariables false
open Go.RowKit

def keptW (xs : List ByteArray) (ig : List Int) (s : ByteArray) : List Int := (idxL xs s).filter fun n => !decide (n ∈ ig)
def keptP (xs : List ByteArray) (ig : List Int) (s : ByteArray) : List (List Int) := (spaceB s).map (keptW xs ig)
theorem filter_key (ig l : List Int) : (l.map fun n => 10 + n).filter (fun n => !ignB ig n) = (l.filter fun n => !decide (n ∈ ig)).map fun n => 10 + n := by
  induction l with
  | nil => rfl
  | cons a l ih =>
    have e : ignB ig (10 + a) = decide (a ∈ ig) := by unfold ignB; rw [show 10 + a - 10 = a by omega]
    rw [List.map_cons]
    by_cases h : a ∈ ig
    · rw [List.filter_cons_of_neg (by rw [e]; simp [h]), List.filter_cons_of_neg (by simp [h]), ih]
    · rw [List.filter_cons_of_pos (by rw [e]; simp [h]), List.filter_cons_of_pos (by simp [h]), List.map_cons, ih]
theorem cmpLL_map : ∀ (x y : List (List Int)), cmpLL (x.map fun l => l.map fun n => 10 + n) (y.map fun l => l.map fun n => 10 + n) = cmpLL x y
  | [], [] => rfl
  | [], _ :: _ => rfl
  | _ :: _, [] => rfl
  | a :: x, b :: y => by
    rw [List.map_cons, List.map_cons, cmpLL, cmpLL, cmpL_map, cmpLL_map x y]
theorem left_key (xs : List ByteArray) (ig : List Int) (s : ByteArray) (hig : ∀ i ∈ ig, 0 ≤ i) : leftK ig (keyP xs s) = joinK ((keptP xs ig s).map fun l => l.map fun n => 10 + n) := by
  have h0 : (fun n => !ignB ig n) 0 = true := by
    show (!ignB ig 0) = true
    unfold ignB
    rw [decide_eq_false]; · rfl
    · intro h; have := hig _ h; omega
  unfold leftK keyP keysW
  rw [joinK_filter _ h0]
  unfold keptP
  rw [List.map_map, List.map_map]
  congr 1
  refine List.map_congr_left fun w _ => ?_
  show (keyW xs w).filter _ = (keptW xs ig w).map _
  unfold keyW keptW
  exact filter_key ig _
theorem once_key (xs : List ByteArray) (ig : List Int) (s t : ByteArray) (hig : ∀ i ∈ ig, 0 ≤ i) : cmpLL (keptP xs ig s) (keptP xs ig t) = cmpL (leftK ig (keyP xs s)) (leftK ig (keyP xs t)) := by
  have hpos : ∀ u, ∀ a ∈ (keptP xs ig u).map (fun l => l.map fun n => 10 + n), ∀ n ∈ a, 0 < n := by
    intro u a ha n hn
    unfold keptP at ha
    rw [List.map_map, List.mem_map] at ha
    obtain ⟨w, _, rfl⟩ := ha
    have hn' : n ∈ (keptW xs ig w).map fun n => 10 + n := hn
    rw [List.mem_map] at hn'
    obtain ⟨i, hi, rfl⟩ := hn'
    have := idx_range xs w.size w (Nat.le_refl _) i (List.mem_filter.1 hi).1
    omega
  have hne : ∀ u, (keptP xs ig u).map (fun l => l.map fun n => 10 + n) ≠ [] := by
    intro u e
    have h1 := congrArg List.length e
    have h2 : 0 < (spaceB u).length := by unfold spaceB; rw [← rest_zero]; exact rest_pos _ _ _
    unfold keptP at h1
    simp at h1
    rw [h1] at h2; simp at h2
  rw [left_key xs ig s hig, left_key xs ig t hig, cmp_join _ _ (hpos s) (hpos t) (hne s) (hne t), cmpLL_map]
/-- The order of two phrases. -/
def ordP (xs : List ByteArray) (ig : List Int) (s t : ByteArray) : Int := ordK ig (keyP xs s) (keyP xs t)
theorem ord_words (xs : List ByteArray) (ig : List Int) (s t : ByteArray) (hig : ∀ i ∈ ig, 0 ≤ i) : ordP xs ig s t = orI (cmpLL (keptP xs ig s) (keptP xs ig t)) (cmpLL (keptP xs [] s) (keptP xs [] t)) := by
  have h : ∀ k, leftK [] k = k := fun k => by unfold leftK ignB; simp
  rw [once_key xs ig s t hig, once_key xs [] s t (by simp), h, h]; rfl
theorem cmpLL_end (a b : List (List Int)) (i : Nat) (h : a.length ≤ i ∨ b.length ≤ i) (ha : i ≤ a.length) (hb : i ≤ b.length) : cmpLL (a.drop i) (b.drop i) = if a.length < b.length then -1 else if b.length < a.length then 1 else 0 := by
  rcases h with h | h
  · rw [List.drop_of_length_le h]
    rcases Nat.lt_or_ge i b.length with h2 | h2
    · rw [List.drop_eq_getElem_cons h2, if_pos (by omega)]; rfl
    · rw [List.drop_of_length_le h2, if_neg (by omega), if_neg (by omega)]; rfl
  · rw [List.drop_of_length_le h]
    rcases Nat.lt_or_ge i a.length with h2 | h2
    · rw [List.drop_eq_getElem_cons h2, if_neg (by omega), if_pos (by omega)]; rfl
    · rw [List.drop_of_length_le h2, if_neg (by omega), if_neg (by omega)]; rfl
theorem cmpLL_step (a b : List (List Int)) (i : Nat) (x y : List Int) (hx : a[i]? = some x) (hy : b[i]? = some y) : cmpLL (a.drop i) (b.drop i) = orI (cmpL x y) (cmpLL (a.drop (i + 1)) (b.drop (i + 1))) := by
  obtain ⟨h1, e1⟩ := List.getElem?_eq_some_iff.1 hx
  obtain ⟨h2, e2⟩ := List.getElem?_eq_some_iff.1 hy
  rw [List.drop_eq_getElem_cons h1, List.drop_eq_getElem_cons h2, cmpLL, e1, e2]
theorem cmpLL_val : ∀ (a b : List (List Int)), cmpLL a b = -1 ∨ cmpLL a b = 0 ∨ cmpLL a b = 1
  | [], [] => by simp [cmpLL]
  | [], _ :: _ => by simp [cmpLL]
  | _ :: _, [] => by simp [cmpLL]
  | a :: x, b :: y => orI_val (cmpL_val a b) (cmpLL_val x y)
end Go.Proofs.YtjockiedganokaaDoor
