/-
  Plain facts on the stable insertion sort of places by their distance: no program is named here.
-/
import Derived.Test.YtmbahbnadkmnkaaPlain
import Derived.Shelf.SlSortCmp.Insertion
import Derived.Sort.LotA
namespace Go.Proofs.Ytmbahbnadkmnkaa
set_option linter.unusedVariables false
open Go.Sort

theorem ins_perm (lt : Nat → Nat → Bool) : ∀ (j : Nat) (d : Array Nat) (b : Nat), j < b → b ≤ d.size → PermIn 0 b d (insInner lt 0 j d)
  | 0, d, b, _, _ => by unfold insInner; exact permIn_refl d 0 b
  | j + 1, d, b, h1, h2 => by
    unfold insInner
    split
    · exact permIn_trans d (swp d (j + 1) j) _ 0 b (swp_permIn d 0 b (j + 1) j (Nat.zero_le _) h1 (Nat.zero_le _) (by omega) h2) (ins_perm lt j (swp d (j + 1) j) b (by omega) (by rw [swp_size]; exact h2))
    · exact permIn_refl d 0 b
theorem ins_congr (lt lt2 : Nat → Nat → Bool) : ∀ (j : Nat) (d : Array Nat), j < d.size → (∀ q, q < j → lt d[j]! d[q]! = lt2 d[j]! d[q]!) → insInner lt 0 j d = insInner lt2 0 j d
  | 0, d, _, _ => by unfold insInner; rfl
  | j + 1, d, hj, h => by
    have h0 := h j (by omega)
    unfold insInner
    rw [h0]
    split
    · refine ins_congr lt lt2 j (swp d (j + 1) j) (by rw [swp_size]; omega) (fun q hq => ?_)
      rw [swp_get d hj (by omega) j, swp_get d hj (by omega) q, if_pos rfl, if_neg (by omega), if_neg (by omega)]
      exact h q (by omega)
    · rfl
/-- What is sorted already is less than what is to come, and that ascends. -/
def Inc (i : Nat) (d : Array Nat) : Prop := (∀ p q, p < i → i ≤ q → q < d.size → d[p]! < d[q]!) ∧ (∀ p q, i ≤ p → p < q → q < d.size → d[p]! < d[q]!)
theorem Inc.step {lt : Nat → Nat → Bool} {i : Nat} {d : Array Nat} (h : Inc i d) (hi : i < d.size) : Inc (i + 1) (insInner lt 0 i d) := by
  have hP := ins_perm lt i d (i + 1) (Nat.lt_succ_self _) hi
  have hs : (insInner lt 0 i d).size = d.size := hP.1
  have ho : ∀ k, i + 1 ≤ k → (insInner lt 0 i d)[k]! = d[k]! := fun k hk => hP.2.1 k (.inr hk)
  refine ⟨fun p q hp hq hqs => ?_, fun p q hp hpq hqs => ?_⟩
  · rw [hs] at hqs
    rw [ho q hq]
    refine permIn_all d _ 0 (i + 1) (fun x => x < d[q]!) hi hP (fun k _ hk => ?_) p (Nat.zero_le _) hp
    by_cases hki : k < i
    · exact h.1 k q hki (by omega) hqs
    · exact h.2 k q (by omega) (by omega) hqs
  · rw [hs] at hqs
    rw [ho q (by omega), ho p hp]
    exact h.2 p q (by omega) hpq hqs
theorem outer_eq (lt : Nat → Nat → Bool) (b i : Nat) (d : Array Nat) : insOuter lt 0 b i d = if i < b then insOuter lt 0 b (i + 1) (insInner lt 0 i d) else d := by rw [insOuter]
theorem outer_congr (lt lt2 : Nat → Nat → Bool) (hc : ∀ x y, y < x → lt x y = lt2 x y) : ∀ (n i : Nat) (d : Array Nat) (b : Nat), b = d.size → b - i ≤ n → Inc i d → insOuter lt 0 b i d = insOuter lt2 0 b i d := by
  intro n
  induction n with
  | zero =>
    intro i d b hb hn hI
    rw [outer_eq lt b i d, outer_eq lt2 b i d, if_neg (by omega), if_neg (by omega)]
  | succ n ih =>
    intro i d b hb hn hI
    rw [outer_eq lt b i d, outer_eq lt2 b i d]
    by_cases hi : i < b
    · rw [if_pos hi, if_pos hi]
      have he : insInner lt 0 i d = insInner lt2 0 i d := ins_congr lt lt2 i d (by omega) (fun q hq => hc _ _ (hI.1 q i hq (Nat.le_refl _) (by omega)))
      rw [← he]
      exact ih (i + 1) _ b (by rw [(ins_perm lt i d (i + 1) (Nat.lt_succ_self _) (by omega)).1]; exact hb) (by omega) (hI.step (by omega))
    · rw [if_neg hi, if_neg hi]

theorem outer_size (lt : Nat → Nat → Bool) : ∀ (n i : Nat) (d : Array Nat) (b : Nat), b ≤ d.size → b - i ≤ n → (insOuter lt 0 b i d).size = d.size := by
  intro n
  induction n with
  | zero => intro i d b hb hn; rw [outer_eq lt b i d, if_neg (by omega)]
  | succ n ih =>
    intro i d b hb hn
    rw [outer_eq lt b i d]
    by_cases hi : i < b
    · rw [if_pos hi]
      have h1 := (ins_perm lt i d (i + 1) (Nat.lt_succ_self _) (by omega)).1
      rw [ih (i + 1) _ b (by rw [h1]; exact hb) (by omega), h1]
    · rw [if_neg hi]
theorem sort_size (lt : Nat → Nat → Bool) (d : Array Nat) : (Sort.insertionSort lt d 0 d.size).size = d.size := outer_size lt _ 1 d d.size (Nat.le_refl _) (Nat.le_refl _)

def ltD (D : Nat → Int) (x y : Nat) : Bool := decide (D x < D y)
def ltE (D : Nat → Int) (x y : Nat) : Bool := decide (D x < D y ∨ (D x = D y ∧ x < y))
theorem ltE_swo (D : Nat → Int) : SWO (ltE D) where
  irrefl x := by unfold ltE; rw [decide_eq_false_iff_not]; omega
  trans x y z h1 h2 := by unfold ltE at *; rw [decide_eq_true_eq] at *; omega
  ntrans x y z h1 h2 := by unfold ltE at *; rw [decide_eq_false_iff_not] at *; omega
theorem ltD_ltE (D : Nat → Int) (x y : Nat) (h : y < x) : ltD D x y = ltE D x y := by
  unfold ltD ltE; rw [decide_eq_decide]; omega

def nearU (D : Nat → Int) (most : Int) (k : Nat) : List Nat := (List.range k).filter fun i => decide (D i ≤ most)
theorem nearU_zero (D : Nat → Int) (most : Int) : nearU D most 0 = [] := rfl
theorem nearU_yes {D : Nat → Int} {most : Int} {k : Nat} (h : D k ≤ most) : nearU D most (k + 1) = nearU D most k ++ [k] := by
  unfold nearU; rw [List.range_succ, List.filter_append]; simp [h]
theorem nearU_no {D : Nat → Int} {most : Int} {k : Nat} (h : ¬ D k ≤ most) : nearU D most (k + 1) = nearU D most k := by
  unfold nearU; rw [List.range_succ, List.filter_append]; simp [h]
theorem nearU_mem {D : Nat → Int} {most : Int} {k x : Nat} (h : x ∈ nearU D most k) : x < k ∧ D x ≤ most := by
  unfold nearU at h; rw [List.mem_filter, List.mem_range, decide_eq_true_eq] at h; exact h
theorem nearU_len (D : Nat → Int) (most : Int) (k : Nat) : (nearU D most k).length ≤ k := by
  have := List.length_filter_le (fun i => decide (D i ≤ most)) (List.range k)
  rw [List.length_range] at this; exact this
theorem nearU_inc (D : Nat → Int) (most : Int) (k : Nat) : (nearU D most k).Pairwise (· < ·) := by
  unfold nearU; exact List.Pairwise.filter _ List.pairwise_lt_range
/-- Those at distance d among the first k. -/
def atD (D : Nat → Int) (d : Int) (k : Nat) : List Nat := (List.range k).filter fun i => decide (D i = d)
theorem atD_zero (D : Nat → Int) (d : Int) : atD D d 0 = [] := rfl
theorem atD_yes {D : Nat → Int} {d : Int} {k : Nat} (h : D k = d) : atD D d (k + 1) = atD D d k ++ [k] := by
  unfold atD; rw [List.range_succ, List.filter_append]; simp [h]
theorem atD_no {D : Nat → Int} {d : Int} {k : Nat} (h : ¬ D k = d) : atD D d (k + 1) = atD D d k := by
  unfold atD; rw [List.range_succ, List.filter_append]; simp [h]
/-- Those at distances below k, distance by distance. -/
def nearS (D : Nat → Int) (N : Nat) : Nat → List Nat
  | 0 => []
  | k + 1 => nearS D N k ++ atD D (k : Int) N
theorem nearS_succ (D : Nat → Int) (N k : Nat) : nearS D N (k + 1) = nearS D N k ++ atD D (k : Int) N := rfl
theorem atD_mem {D : Nat → Int} {d : Int} {N x : Nat} (h : x ∈ atD D d N) : x < N ∧ D x = d := by
  unfold atD at h; rw [List.mem_filter, List.mem_range, decide_eq_true_eq] at h; exact h
theorem nearS_mem {D : Nat → Int} {N x : Nat} : ∀ {k : Nat}, x ∈ nearS D N k → x < N ∧ D x < (k : Int)
  | 0, h => by cases h
  | k + 1, h => by
    rw [nearS_succ, List.mem_append] at h
    rcases h with h | h
    · have := nearS_mem h; omega
    · have := atD_mem h; omega
theorem split_perm (p q r : Nat → Bool) (h : ∀ x, r x = (p x || q x)) (hd : ∀ x, (p x && q x) = false) : ∀ l : List Nat, (l.filter p ++ l.filter q).Perm (l.filter r)
  | [] => List.Perm.refl _
  | x :: l => by
    have ih := split_perm p q r h hd l
    have h1 := h x
    have h2 := hd x
    cases hp : p x <;> cases hq : q x <;> rw [hp, hq] at h1 h2
    · rw [List.filter_cons_of_neg (by rw [hp]; decide), List.filter_cons_of_neg (by rw [hq]; decide), List.filter_cons_of_neg (by rw [h1]; decide)]; exact ih
    · rw [List.filter_cons_of_neg (by rw [hp]; decide), List.filter_cons_of_pos hq, List.filter_cons_of_pos (by rw [h1]; rfl)]
      exact List.perm_middle.trans (List.Perm.cons x ih)
    · rw [List.filter_cons_of_pos hp, List.filter_cons_of_neg (by rw [hq]; decide), List.filter_cons_of_pos (by rw [h1]; rfl)]
      exact List.Perm.cons x ih
    · cases h2
theorem nearS_perm (D : Nat → Int) (hD : ∀ x, 0 ≤ D x) (N : Nat) : ∀ k : Nat, (nearS D N k).Perm ((List.range N).filter fun i => decide (D i < (k : Int)))
  | 0 => by
    have : ((List.range N).filter fun i => decide (D i < ((0 : Nat) : Int))) = [] := by
      rw [List.filter_eq_nil_iff]
      intro x _
      have := hD x
      simp; omega
    rw [this]; exact List.Perm.refl _
  | k + 1 => by
    rw [nearS_succ]
    refine ((nearS_perm D hD N k).append_right _).trans ?_
    refine split_perm _ _ _ (fun x => ?_) (fun x => ?_) (List.range N)
    · rw [← Bool.decide_or, decide_eq_decide]; omega
    · rw [← Bool.decide_and, decide_eq_false_iff_not]; omega
theorem nearS_pair (D : Nat → Int) (N : Nat) : ∀ k : Nat, (nearS D N k).Pairwise (fun x y => ltE D y x = false)
  | 0 => List.Pairwise.nil
  | k + 1 => by
    rw [nearS_succ, List.pairwise_append]
    refine ⟨nearS_pair D N k, ?_, fun x hx y hy => ?_⟩
    · have h1 : (atD D (k : Int) N).Pairwise (· < ·) := List.Pairwise.filter _ List.pairwise_lt_range
      refine List.Pairwise.imp_of_mem (fun {a b} ha hb hab => ?_) h1
      have h2 := (atD_mem ha).2
      have h3 := (atD_mem hb).2
      unfold ltE; rw [decide_eq_false_iff_not]; omega
    · have h2 := (nearS_mem hx).2
      have h3 := (atD_mem hy).2
      unfold ltE; rw [decide_eq_false_iff_not]; omega
theorem nearS_len (D : Nat → Int) (hD : ∀ x, 0 ≤ D x) (N k : Nat) : (nearS D N k).length ≤ N := by
  rw [(nearS_perm D hD N k).length_eq]
  have := List.length_filter_le (fun i => decide (D i < (k : Int))) (List.range N)
  rw [List.length_range] at this; exact this

theorem inc_start {l : List Nat} (h : l.Pairwise (· < ·)) : Inc 1 l.toArray := by
  have key : ∀ p q, p < q → q < l.toArray.size → l.toArray[p]! < l.toArray[q]! := by
    intro p q hpq hq
    have hq' : q < l.length := by simpa using hq
    rw [getElem!_pos l.toArray p (by simp; omega), getElem!_pos l.toArray q (by simpa using hq')]
    rw [List.pairwise_iff_getElem] at h
    simpa using h p q (by omega) hq' hpq
  exact ⟨fun p q hp hq hqs => key p q (by omega) hqs, fun p q hp hpq hqs => key p q hpq hqs⟩
/-- The sorted row. -/
theorem near_eq (D : Nat → Int) (hD : ∀ x, 0 ≤ D x) (N most : Nat) :
    (Sort.insertionSort (ltD D) (nearU D (most : Int) N).toArray 0 (nearU D (most : Int) N).toArray.size).toList = nearS D N (most + 1) := by
  obtain ⟨l, hl⟩ : ∃ l, l = nearU D (most : Int) N := ⟨_, rfl⟩
  rw [← hl]
  have hinc := nearU_inc D (most : Int) N
  rw [← hl] at hinc
  have he : Sort.insertionSort (ltD D) l.toArray 0 l.toArray.size = Sort.insertionSort (ltE D) l.toArray 0 l.toArray.size :=
    outer_congr (ltD D) (ltE D) (ltD_ltE D) _ 1 l.toArray _ rfl (Nat.le_refl _) (inc_start hinc)
  rw [he]
  obtain ⟨hP, hS⟩ := Sort.insertionSort_holds (lt := ltE D) (ltE_swo D) l.toArray 0 l.toArray.size (Nat.zero_le _) (Nat.le_refl _)
  obtain ⟨r, hr⟩ : ∃ r, r = Sort.insertionSort (ltE D) l.toArray 0 l.toArray.size := ⟨_, rfl⟩
  rw [← hr] at hP hS ⊢
  have hsz : r.size = l.toArray.size := hP.1
  have hperm : r.toList.Perm l := by
    have h1 := hP.2.2
    rw [← hsz] at h1
    have e1 : r.extract 0 r.size = r := by simp
    have e2 : l.toArray.extract 0 r.size = l.toArray := by rw [hsz]; simp
    rw [e1, e2] at h1
    exact h1
  have hpair : r.toList.Pairwise (fun x y => ltE D y x = false) := by
    rw [List.pairwise_iff_getElem]
    intro i j hi hj hij
    have h1 := hS i j (Nat.zero_le _) hij (by rw [← hsz]; simpa using hj)
    rw [getElem!_pos r j (by simpa using hj), getElem!_pos r i (by simpa using hi)] at h1
    simpa using h1
  have hp2 : (nearS D N (most + 1)).Perm l := by
    refine (nearS_perm D hD N (most + 1)).trans ?_
    rw [hl]
    unfold nearU
    have : (fun i => decide (D i < ((most + 1 : Nat) : Int))) = (fun i => decide (D i ≤ (most : Int))) := by
      funext i; rw [decide_eq_decide]; omega
    rw [this]
  exact List.Perm.eq_of_pairwise (le := fun x y => ltE D y x = false) (fun a b _ _ h1 h2 => by
    unfold ltE at h1 h2
    rw [decide_eq_false_iff_not] at h1 h2
    omega) hpair (nearS_pair D N (most + 1)) (hperm.trans hp2.symm)
end Go.Proofs.Ytmbahbnadkmnkaa
