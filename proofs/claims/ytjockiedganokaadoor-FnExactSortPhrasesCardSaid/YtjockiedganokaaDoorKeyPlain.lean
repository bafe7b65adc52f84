/-
  Plain facts on keys: lists of numbers in lexicographic order, lists joined by 0, orders and sorted lists. No program is named here.
-/
import Derived.Lib.SlicesCompact
namespace Go.Proofs.YtjockiedganokaaDoor
set_option linter.unusedVariables false
/-- Two lists of numbers in lexicographic order: -1, 0 or 1. -/
def cmpL : List Int → List Int → Int
  | [], [] => 0
  | [], _ :: _ => -1
  | _ :: _, [] => 1
  | a :: as, b :: bs => if a < b then -1 else if b < a then 1 else cmpL as bs
def orI (a b : Int) : Int := if a = 0 then b else a
theorem cmpL_self : ∀ a, cmpL a a = 0
  | [] => rfl
  | a :: as => by simp only [cmpL, Int.lt_irrefl, if_false]; exact cmpL_self as
theorem cmpL_zero : ∀ a b, cmpL a b = 0 → a = b
  | [], [], _ => rfl
  | [], _ :: _, h => by simp [cmpL] at h
  | _ :: _, [], h => by simp [cmpL] at h
  | a :: as, b :: bs, h => by
    simp only [cmpL] at h
    split at h
    · simp at h
    · split at h
      · simp at h
      · rw [cmpL_zero as bs h]; congr 1; omega
theorem cmpL_val (a b : List Int) : cmpL a b = -1 ∨ cmpL a b = 0 ∨ cmpL a b = 1 := by
  induction a generalizing b with
  | nil => cases b <;> simp [cmpL]
  | cons x a ih =>
    cases b with
    | nil => simp [cmpL]
    | cons y b =>
      simp only [cmpL]
      split
      · simp
      · split
        · simp
        · exact ih b
theorem cmpL_neg (a b : List Int) : cmpL a b = - cmpL b a := by
  induction a generalizing b with
  | nil => cases b <;> simp [cmpL]
  | cons x a ih =>
    cases b with
    | nil => simp [cmpL]
    | cons y b =>
      simp only [cmpL]
      by_cases h1 : x < y
      · rw [if_pos h1, if_neg (by omega), if_pos h1]
      · rw [if_neg h1]
        by_cases h2 : y < x
        · rw [if_pos h2, if_pos h2]; rfl
        · rw [if_neg h2, if_neg h2, if_neg h1]; exact ih b
theorem cmpL_trans (a b c : List Int) (h1 : cmpL a b ≤ 0) (h2 : cmpL b c ≤ 0) : cmpL a c ≤ 0 := by
  induction a generalizing b c with
  | nil => cases c <;> simp [cmpL]
  | cons x a ih =>
    cases b with
    | nil => simp [cmpL] at h1
    | cons y b =>
      cases c with
      | nil => simp [cmpL] at h2
      | cons z c =>
        simp only [cmpL] at *
        by_cases e1 : x < y
        · by_cases e2 : y < z
          · rw [if_pos (by omega)]; omega
          · rw [if_neg e2] at h2
            by_cases e3 : z < y
            · rw [if_pos e3] at h2; omega
            · rw [if_pos (by omega)]; omega
        · rw [if_neg e1] at h1
          by_cases e1' : y < x
          · rw [if_pos e1'] at h1; omega
          · rw [if_neg e1'] at h1
            by_cases e2 : y < z
            · rw [if_pos (by omega)]; omega
            · rw [if_neg e2] at h2
              by_cases e3 : z < y
              · rw [if_pos e3] at h2; omega
              · rw [if_neg e3] at h2
                rw [if_neg (by omega), if_neg (by omega)]
                exact ih b c h1 h2
theorem cmpL_step (a b : List Int) (i : Nat) (x y : Int) (hx : a[i]? = some x) (hy : b[i]? = some y) : cmpL (a.drop i) (b.drop i) = if x < y then -1 else if y < x then 1 else cmpL (a.drop (i + 1)) (b.drop (i + 1)) := by
  obtain ⟨h1, e1⟩ := List.getElem?_eq_some_iff.1 hx
  obtain ⟨h2, e2⟩ := List.getElem?_eq_some_iff.1 hy
  rw [List.drop_eq_getElem_cons h1, List.drop_eq_getElem_cons h2, cmpL, e1, e2]
theorem cmpL_end (a b : List Int) (i : Nat) (h : a.length ≤ i ∨ b.length ≤ i) (ha : i ≤ a.length) (hb : i ≤ b.length) : cmpL (a.drop i) (b.drop i) = if a.length < b.length then -1 else if b.length < a.length then 1 else 0 := by
  rcases h with h | h
  · rw [List.drop_of_length_le h]
    rcases Nat.lt_or_ge i b.length with h2 | h2
    · rw [List.drop_eq_getElem_cons h2, if_pos (by omega)]; rfl
    · rw [List.drop_of_length_le h2, if_neg (by omega), if_neg (by omega)]; rfl
  · rw [List.drop_of_length_le h]
    rcases Nat.lt_or_ge i a.length with h2 | h2
    · rw [List.drop_eq_getElem_cons h2, if_neg (by omega), if_pos (by omega)]; rfl
    · rw [List.drop_of_length_le h2, if_neg (by omega), if_neg (by omega)]; rfl

/-- Lists joined by 0. -/
def joinK : List (List Int) → List Int
  | [] => []
  | [a] => a
  | a :: b :: r => a ++ 0 :: joinK (b :: r)
def cmpLL : List (List Int) → List (List Int) → Int
  | [], [] => 0
  | [], _ :: _ => -1
  | _ :: _, [] => 1
  | a :: as, b :: bs => orI (cmpL a b) (cmpLL as bs)
theorem cmp_00 (a b r s : List Int) (ha : ∀ x ∈ a, 0 < x) (hb : ∀ x ∈ b, 0 < x) : cmpL (a ++ 0 :: r) (b ++ 0 :: s) = orI (cmpL a b) (cmpL r s) := by
  induction a generalizing b with
  | nil =>
    cases b with
    | nil => simp [cmpL, orI]
    | cons y b => have := hb y (by simp); simp [cmpL, orI]; omega
  | cons x a ih =>
    have hx := ha x (by simp)
    cases b with
    | nil => simp [cmpL, orI]; omega
    | cons y b =>
      simp only [List.cons_append, cmpL]
      by_cases h1 : x < y
      · rw [if_pos h1, if_pos h1]; rfl
      · rw [if_neg h1, if_neg h1]
        by_cases h2 : y < x
        · rw [if_pos h2, if_pos h2]; rfl
        · rw [if_neg h2, if_neg h2]
          exact ih b (fun z hz => ha z (by simp [hz])) (fun z hz => hb z (by simp [hz]))
theorem cmp_10 (a b r : List Int) (ha : ∀ x ∈ a, 0 < x) (hb : ∀ x ∈ b, 0 < x) : cmpL (a ++ 0 :: r) b = orI (cmpL a b) 1 := by
  induction a generalizing b with
  | nil =>
    cases b with
    | nil => simp [cmpL, orI]
    | cons y b => have := hb y (by simp); simp [cmpL, orI]; omega
  | cons x a ih =>
    have hx := ha x (by simp)
    cases b with
    | nil => simp [cmpL, orI]
    | cons y b =>
      simp only [List.cons_append, cmpL]
      by_cases h1 : x < y
      · rw [if_pos h1, if_pos h1]; rfl
      · rw [if_neg h1, if_neg h1]
        by_cases h2 : y < x
        · rw [if_pos h2, if_pos h2]; rfl
        · rw [if_neg h2, if_neg h2]
          exact ih b (fun z hz => ha z (by simp [hz])) (fun z hz => hb z (by simp [hz]))
theorem orI_neg (a b : Int) : - orI a b = orI (-a) (-b) := by unfold orI; by_cases h : a = 0 <;> simp [h]
theorem cmp_01 (a b r : List Int) (ha : ∀ x ∈ a, 0 < x) (hb : ∀ x ∈ b, 0 < x) : cmpL a (b ++ 0 :: r) = orI (cmpL a b) (-1) := by
  rw [cmpL_neg, cmp_10 b a r hb ha, orI_neg, ← cmpL_neg]
theorem cmp_join : ∀ (x y : List (List Int)), (∀ a ∈ x, ∀ n ∈ a, 0 < n) → (∀ a ∈ y, ∀ n ∈ a, 0 < n) → x ≠ [] → y ≠ [] → cmpL (joinK x) (joinK y) = cmpLL x y
  | [], _, _, _, h, _ => absurd rfl h
  | _, [], _, _, _, h => absurd rfl h
  | [a], [b], ha, hb, _, _ => by simp [joinK, cmpLL, orI]
  | [a], b :: c :: s, ha, hb, _, _ => by
    rw [joinK, joinK, cmp_01 a b _ (ha a (by simp)) (hb b (by simp)), cmpLL]; rfl
  | a :: c :: r, [b], ha, hb, _, _ => by
    rw [joinK, joinK, cmp_10 a b _ (ha a (by simp)) (hb b (by simp)), cmpLL]; rfl
  | a :: c :: r, b :: d :: s, ha, hb, _, _ => by
    rw [joinK, joinK, cmp_00 a b _ _ (ha a (by simp)) (hb b (by simp)), cmpLL, cmp_join (c :: r) (d :: s) (fun e h => ha e (by simp [h])) (fun e h => hb e (by simp [h])) (by simp) (by simp)]
theorem cmpL_map (a b : List Int) : cmpL (a.map fun n => 10 + n) (b.map fun n => 10 + n) = cmpL a b := by
  induction a generalizing b with
  | nil => cases b <;> rfl
  | cons x a ih =>
    cases b with
    | nil => rfl
    | cons y b =>
      simp only [List.map_cons, cmpL]
      rw [ih b]
      by_cases h1 : x < y
      · rw [if_pos (by omega), if_pos h1]
      · rw [if_neg (by omega), if_neg h1]
        by_cases h2 : y < x
        · rw [if_pos (by omega), if_pos h2]
        · rw [if_neg (by omega), if_neg h2]
theorem joinK_filter (p : Int → Bool) (h0 : p 0 = true) : ∀ x : List (List Int), (joinK x).filter p = joinK (x.map (·.filter p))
  | [] => rfl
  | [a] => rfl
  | a :: b :: r => by
    rw [joinK, List.filter_append, List.filter_cons_of_pos h0, joinK_filter p h0 (b :: r)]; rfl
theorem joinK_snoc : ∀ (x : List (List Int)) (a : List Int), x ≠ [] → joinK (x ++ [a]) = joinK x ++ 0 :: a
  | [], _, h => absurd rfl h
  | [b], a, _ => rfl
  | b :: c :: r, a, _ => by
    rw [List.cons_append, List.cons_append, joinK, ← List.cons_append, joinK_snoc (c :: r) a (by simp), joinK]; simp

/-- What is left of a key if the letters ig are ignored. -/
def ignB (ig : List Int) (n : Int) : Bool := decide (n - 10 ∈ ig)
def leftK (ig : List Int) (k : List Int) : List Int := k.filter fun n => !ignB ig n
def ordK (ig : List Int) (a b : List Int) : Int := orI (cmpL (leftK ig a) (leftK ig b)) (cmpL a b)
theorem orI_val {a b : Int} (ha : a = -1 ∨ a = 0 ∨ a = 1) (hb : b = -1 ∨ b = 0 ∨ b = 1) : orI a b = -1 ∨ orI a b = 0 ∨ orI a b = 1 := by
  unfold orI; split
  · exact hb
  · exact ha
theorem ordK_val (ig a b : List Int) : ordK ig a b = -1 ∨ ordK ig a b = 0 ∨ ordK ig a b = 1 := orI_val (cmpL_val _ _) (cmpL_val _ _)
theorem ordK_neg (ig a b : List Int) : ordK ig a b = - ordK ig b a := by
  unfold ordK; rw [orI_neg, ← cmpL_neg, ← cmpL_neg]
theorem ordK_self (ig a : List Int) : ordK ig a a = 0 := by unfold ordK; rw [cmpL_self, cmpL_self]; rfl
theorem ordK_zero (ig a b : List Int) (h : ordK ig a b = 0) : a = b := by
  unfold ordK orI at h
  split at h
  · exact cmpL_zero a b h
  · contradiction
theorem ordK_none (a b : List Int) : ordK [] a b = cmpL a b := by
  have h : ∀ k, leftK [] k = k := fun k => by unfold leftK ignB; simp
  unfold ordK orI; rw [h, h]; split
  · rfl
  · rfl
theorem ordK_trans (ig a b c : List Int) (h1 : ordK ig a b ≤ 0) (h2 : ordK ig b c ≤ 0) : ordK ig a c ≤ 0 := by
  unfold ordK orI at *
  have t1 := cmpL_val (leftK ig a) (leftK ig b)
  have t2 := cmpL_val (leftK ig b) (leftK ig c)
  have hl1 : cmpL (leftK ig a) (leftK ig b) ≤ 0 := by split at h1 <;> omega
  have hl2 : cmpL (leftK ig b) (leftK ig c) ≤ 0 := by split at h2 <;> omega
  have hl3 := cmpL_trans _ _ _ hl1 hl2
  split
  · rename_i h0
    have e1 : cmpL (leftK ig a) (leftK ig b) = 0 := by
      rcases t1 with t | t | t
      · -- a < b ≤ c, yet a = c
        have hac := cmpL_zero _ _ h0
        rw [hac, cmpL_neg] at t
        omega
      · exact t
      · omega
    have e2 : cmpL (leftK ig b) (leftK ig c) = 0 := by
      have hac := cmpL_zero _ _ h0
      rw [hac, cmpL_neg] at e1
      omega
    rw [if_pos e1] at h1
    rw [if_pos e2] at h2
    exact cmpL_trans _ _ _ h1 h2
  · exact hl3

section
variable {α : Type}
/-- In order under a comparison (as a Boolean). -/
def srt (o : α → α → Int) (l : List α) : Prop := l.Pairwise fun a b => o a b ≤ 0
/-- The place of insertion: behind all that x is not before, counted from the end. -/
theorem srt_insert (o : α → α → Int) (hneg : ∀ a b, o a b = - o b a) (htr : ∀ a b c, o a b ≤ 0 → o b c ≤ 0 → o a c ≤ 0) (l : List α) (x : α) (at_ : Nat) (h : srt o l)
    (h1 : ∀ a ∈ l.take at_, o a x ≤ 0) (h2 : ∀ b ∈ l.drop at_, o x b ≤ 0) : srt o (l.take at_ ++ [x] ++ l.drop at_) := by
  unfold srt at *
  have h' := h
  rw [← List.take_append_drop at_ l, List.pairwise_append] at h'
  rw [List.append_assoc, List.pairwise_append]
  refine ⟨h'.1, ?_, ?_⟩
  · rw [List.singleton_append, List.pairwise_cons]
    exact ⟨h2, h'.2.1⟩
  · intro a ha b hb
    rw [List.singleton_append, List.mem_cons] at hb
    rcases hb with rfl | hb
    · exact h1 a ha
    · exact h'.2.2 a ha b hb
theorem ins_perm (l : List α) (x : α) (at_ : Nat) : (l.take at_ ++ [x] ++ l.drop at_).Perm (l ++ [x]) := by
  have h : (l.take at_ ++ [x] ++ l.drop at_).Perm (l.take at_ ++ (l.drop at_ ++ [x])) := by
    rw [List.append_assoc]
    exact List.Perm.append_left _ List.perm_append_comm
  rw [← List.append_assoc, List.take_append_drop] at h
  exact h
theorem srt_unique (o : α → α → Int) (hneg : ∀ a b, o a b = - o b a) (a b : List α) (h0 : ∀ x ∈ a, ∀ y ∈ a, o x y = 0 → x = y) (hp : a.Perm b) (ha : srt o a) (hb : srt o b) : a = b := by
  refine hp.eq_of_pairwise ?_ ha hb
  intro x y hx hy h1 h2
  have := hneg x y
  exact h0 x hx y (hp.mem_iff.2 hy) (by omega)
/-- In order, pair by pair. -/
def adjB (o : α → α → Int) : List α → Bool
  | a :: b :: r => decide (o a b ≤ 0) && adjB o (b :: r)
  | _ => true
theorem adj_iff (o : α → α → Int) : ∀ (l : List α), adjB o l = true ↔ ∀ i x y, l[i]? = some x → l[i + 1]? = some y → o x y ≤ 0
  | [] => by simp [adjB]
  | [a] => by simp [adjB]
  | a :: b :: r => by
    rw [adjB, Bool.and_eq_true, decide_eq_true_eq, adj_iff o (b :: r)]
    constructor
    · rintro ⟨h1, h2⟩ i x y hx hy
      cases i with
      | zero => simp at hx hy; subst hx; subst hy; exact h1
      | succ i => exact h2 i x y (by simpa using hx) (by simpa using hy)
    · intro h
      exact ⟨h 0 a b rfl rfl, fun i x y hx hy => h (i + 1) x y (by simpa using hx) (by simpa using hy)⟩
theorem adj_srt (o : α → α → Int) (htr : ∀ a b c, o a b ≤ 0 → o b c ≤ 0 → o a c ≤ 0) : ∀ (l : List α), adjB o l = true → srt o l
  | [], _ => List.Pairwise.nil
  | [a], _ => by simp [srt]
  | a :: b :: r, h => by
    rw [adjB, Bool.and_eq_true, decide_eq_true_eq] at h
    have ih := adj_srt o htr (b :: r) h.2
    unfold srt at *
    rw [List.pairwise_cons]
    refine ⟨fun c hc => ?_, ih⟩
    rw [List.mem_cons] at hc
    rcases hc with rfl | hc
    · exact h.1
    · rw [List.pairwise_cons] at ih
      exact htr _ _ _ h.1 (ih.1 c hc)
theorem srt_adj (o : α → α → Int) (l : List α) (h : srt o l) : adjB o l = true := by
  rw [adj_iff]
  intro i x y hx hy
  obtain ⟨h1, e1⟩ := List.getElem?_eq_some_iff.1 hx
  obtain ⟨h2, e2⟩ := List.getElem?_eq_some_iff.1 hy
  have := List.pairwise_iff_getElem.1 h i (i + 1) h1 h2 (by omega)
  rw [e1, e2] at this; exact this
theorem adj_zero (o : α → α → Int) (l : List α) : adjB o (l.take 1) = true := by
  cases l with
  | nil => rfl
  | cons a r => simp [adjB]
theorem adj_step (o : α → α → Int) (l : List α) (i : Nat) (x y : α) (hx : l[i]? = some x) (hy : l[i + 1]? = some y) (h : adjB o (l.take (i + 1)) = true) (hxy : o x y ≤ 0) : adjB o (l.take (i + 2)) = true := by
  rw [adj_iff] at *
  intro j u v hu hv
  rw [List.getElem?_take] at hu hv
  split at hv
  · rename_i h2
    rw [if_pos (by omega)] at hu
    by_cases e : j = i
    · subst e
      rw [hx] at hu; rw [hy] at hv
      obtain rfl := Option.some.inj hu
      obtain rfl := Option.some.inj hv
      exact hxy
    · exact h j u v (by rw [List.getElem?_take, if_pos (by omega)]; exact hu) (by rw [List.getElem?_take, if_pos (by omega)]; exact hv)
  · cases hv
theorem adj_stop (o : α → α → Int) (l : List α) (i : Nat) (x y : α) (hx : l[i]? = some x) (hy : l[i + 1]? = some y) (h : ¬ o x y ≤ 0) : adjB o l = false := by
  cases e : adjB o l with
  | false => rfl
  | true => exact absurd ((adj_iff o l).1 e i x y hx hy) h
/-- The number of elements before x. -/
def cntB (o : α → α → Int) (l : List α) (x : α) : Nat := l.countP fun a => decide (o a x < 0)
theorem cnt_at (o : α → α → Int) (x : α) : ∀ (l : List α) (k : Nat), k ≤ l.length → (∀ a ∈ l.take k, o a x < 0) → (∀ a ∈ l.drop k, ¬ o a x < 0) → cntB o l x = k := by
  intro l k hk h1 h2
  unfold cntB
  rw [← List.take_append_drop k l, List.countP_append]
  rw [List.countP_eq_length.2 (fun a ha => by simpa using h1 a ha), List.countP_eq_zero.2 (fun a ha => by simpa using h2 a ha), List.length_take]
  omega

end
section
open Go.Lib
theorem sorted_eq : ∀ (a b : List Int), a.Pairwise (· < ·) → b.Pairwise (· < ·) → (∀ x, x ∈ a ↔ x ∈ b) → a = b
  | [], [], _, _, _ => rfl
  | [], y :: b, _, _, h => by have := (h y).2 (by simp); simp at this
  | x :: a, [], _, _, h => by have := (h x).1 (by simp); simp at this
  | x :: a, y :: b, ha, hb, h => by
    rw [List.pairwise_cons] at ha hb
    have hxy : x = y := by
      have h1 := (h x).1 (by simp)
      have h2 := (h y).2 (by simp)
      rw [List.mem_cons] at h1 h2
      rcases h1 with h1 | h1
      · exact h1
      · rcases h2 with h2 | h2
        · exact h2.symm
        · have := ha.1 y h2
          have := hb.1 x h1
          omega
    subst hxy
    rw [sorted_eq a b ha.2 hb.2 fun z => ?_]
    have hz := h z
    rw [List.mem_cons, List.mem_cons] at hz
    constructor
    · intro h1
      have := ha.1 z h1
      rcases hz.1 (.inr h1) with h2 | h2
      · omega
      · exact h2
    · intro h1
      have := hb.1 z h1
      rcases hz.2 (.inr h1) with h2 | h2
      · omega
      · exact h2
theorem compact_inv (d : Array Int) (hs : ∀ i j, i ≤ j → j < d.size → d[i]! ≤ d[j]!) : ∀ m, m ≤ d.size → (compactUpTo d m).Pairwise (· < ·) ∧ ∀ x, x ∈ compactUpTo d m ↔ ∃ j, j < m ∧ d[j]! = x
  | 0, _ => ⟨by simp [compactUpTo], fun x => by simp [compactUpTo]⟩
  | m + 1, hm => by
    obtain ⟨h1, h2⟩ := compact_inv d hs m (by omega)
    rw [compactUpTo_succ]
    cases hk : keeps d m with
    | true =>
      rw [if_pos rfl]
      unfold keeps at hk
      rw [decide_eq_true_eq] at hk
      refine ⟨?_, fun x => ?_⟩
      · rw [List.pairwise_append]
        refine ⟨h1, by simp, fun a ha b hb => ?_⟩
        rw [List.mem_singleton] at hb
        subst hb
        obtain ⟨j, hj, rfl⟩ := (h2 a).1 ha
        have e1 := hs j (m - 1) (by omega) (by omega)
        have e2 := hs (m - 1) m (by omega) (by omega)
        rcases hk with hk | hk
        · omega
        · omega
      · rw [List.mem_append, List.mem_singleton, h2]
        constructor
        · rintro (⟨j, hj, rfl⟩ | rfl)
          · exact ⟨j, by omega, rfl⟩
          · exact ⟨m, by omega, rfl⟩
        · rintro ⟨j, hj, rfl⟩
          by_cases e : j < m
          · exact .inl ⟨j, e, rfl⟩
          · obtain rfl : j = m := by omega
            exact .inr rfl
    | false =>
      rw [if_neg (by simp), List.append_nil]
      unfold keeps at hk
      rw [decide_eq_false_iff_not] at hk
      refine ⟨h1, fun x => ?_⟩
      rw [h2]
      constructor
      · rintro ⟨j, hj, rfl⟩
        exact ⟨j, by omega, rfl⟩
      · rintro ⟨j, hj, rfl⟩
        by_cases e : j < m
        · exact ⟨j, e, rfl⟩
        · obtain rfl : j = m := by omega
          refine ⟨j - 1, by omega, ?_⟩
          by_cases h3 : d[j]! = d[j - 1]!
          · exact h3.symm
          · exact absurd (.inr h3) hk
def upTo (n : Nat) : List Int := (List.range n).map fun (i : Nat) => (i : Int)
/-- The numbers 0, 1 .. below n that occur in a list, in order. -/
def firstF (l : List Int) (n : Nat) : List Int := (upTo n).filter fun k => decide (k ∈ l)
theorem upTo_succ (n : Nat) : upTo (n + 1) = upTo n ++ [(n : Int)] := by unfold upTo; rw [List.range_succ, List.map_append]; rfl
theorem upTo_mem (n : Nat) (x : Int) : x ∈ upTo n ↔ 0 ≤ x ∧ x < n := by
  unfold upTo
  rw [List.mem_map]
  constructor
  · rintro ⟨a, ha, rfl⟩
    rw [List.mem_range] at ha
    omega
  · rintro ⟨h1, h2⟩
    exact ⟨x.toNat, by rw [List.mem_range]; omega, by omega⟩
theorem upTo_sorted (n : Nat) : (upTo n).Pairwise (· < ·) := by
  induction n with
  | zero => simp [upTo]
  | succ n ih =>
    rw [upTo_succ, List.pairwise_append]
    refine ⟨ih, by simp, fun a ha b hb => ?_⟩
    rw [List.mem_singleton] at hb
    have := (upTo_mem n a).1 ha
    omega
theorem firstF_zero (l : List Int) : firstF l 0 = [] := rfl
theorem firstF_succ (l : List Int) (n : Nat) : firstF l (n + 1) = firstF l n ++ (if (n : Int) ∈ l then [(n : Int)] else []) := by
  unfold firstF
  rw [upTo_succ, List.filter_append]
  by_cases h : (n : Int) ∈ l
  · rw [if_pos h, List.filter_cons_of_pos (by simpa using h)]; rfl
  · rw [if_neg h, List.filter_cons_of_neg (by simpa using h)]; rfl
theorem compact_sort (l : List Int) (n : Nat) (h : ∀ x ∈ l, 0 ≤ x ∧ x < n) : compact (l.mergeSort fun x y => decide (x ≤ y)) = firstF l n := by
  have hp := List.mergeSort_perm l (fun x y => decide (x ≤ y))
  have hsort := List.pairwise_mergeSort (le := fun x y : Int => decide (x ≤ y)) (by intro a b c h1 h2; simp at *; omega) (by intro a b; simp; omega) l
  obtain ⟨m, hm⟩ : ∃ m, m = l.mergeSort fun x y => decide (x ≤ y) := ⟨_, rfl⟩
  rw [← hm] at hp hsort ⊢
  have hs : ∀ i j, i ≤ j → j < m.toArray.size → m.toArray[i]! ≤ m.toArray[j]! := by
    intro i j hij hj
    have hjm : j < m.length := by simpa using hj
    rcases Nat.lt_or_ge i j with h1 | h1
    · have := List.pairwise_iff_getElem.1 hsort i j (by omega) hjm h1
      rw [getElem!_pos m.toArray i (by simp; omega), getElem!_pos m.toArray j hj]
      simpa using this
    · have : i = j := by omega
      rw [this]; exact Int.le_refl _
  obtain ⟨c1, c2⟩ := compact_inv m.toArray hs m.length (by simp)
  refine sorted_eq _ _ c1 ?_ fun x => ?_
  · unfold firstF; exact (upTo_sorted n).filter _
  · have e : x ∈ compact m ↔ x ∈ l := by
      unfold compact
      rw [c2, ← hp.mem_iff, List.mem_iff_getElem]
      constructor
      · rintro ⟨j, hj, rfl⟩
        exact ⟨j, hj, by rw [getElem!_pos m.toArray j (by simpa using hj)]; simp⟩
      · rintro ⟨j, hj, rfl⟩
        exact ⟨j, hj, by rw [getElem!_pos m.toArray j (by simpa using hj)]; simp⟩
    have e' : x ∈ compactUpTo m.toArray m.length ↔ x ∈ l := e
    unfold compact
    rw [e']
    unfold firstF
    rw [List.mem_filter, upTo_mem, decide_eq_true_eq]
    constructor
    · intro hx; exact ⟨h x hx, hx⟩
    · intro hx; exact hx.2
end
end Go.Proofs.YtjockiedganokaaDoor
