/-
  Plain facts on names: a name as a structure, a slice's cells, what makes a list of names.
-/
import Derived.Test.YtglmibmjbignbaaGreatDoorMz5
import Derived.Test.YtglmibmjbignbaaGreatDoorMz6
import Derived.Below
import Derived.OwnWalk
import Derived.Laws.OwnMore
import Derived.Deep.AppendLies
import Derived.Lib.SlicesCompact
import Derived.Sort.OwnSorted
import Derived.Sort.OwnSortedInts
import Derived.Lib.RowBridge
import Derived.Sort.Walk0
namespace Go.Proofs.YtglmibmjbignbaaGreatDoor
section
set_option linter.unusedVariables false
open Go.RowKit

structure Nm where
  t : ByteArray
  l : ByteArray
  s : Int
  f : Int
  u : Int
theorem Nm.ext' {x y : Nm} (h1 : x.t = y.t) (h2 : x.l = y.l) (h3 : x.s = y.s) (h4 : x.f = y.f) (h5 : x.u = y.u) : x = y := by
  cases x; cases y; simp at *; exact ⟨h1, h2, h3, h4, h5⟩
def encN (x : Nm) : List Value := [.string x.t, .string x.l, .int .i64 x.s, .int .i64 x.f, .int .i64 x.u]
/-- The value of a name. -/
abbrev nmA (x : Nm) : Value := .agg #[.string x.t, .string x.l, .int .i64 x.s, .int .i64 x.f, .int .i64 x.u]
def nmV (xs : List Nm) : List Value := xs.flatMap encN
theorem nmV_cons (p : Nm) (xs : List Nm) : nmV (p :: xs) = .string p.t :: .string p.l :: .int .i64 p.s :: .int .i64 p.f :: .int .i64 p.u :: nmV xs := by simp [nmV, encN]
theorem nmV_len : ∀ xs : List Nm, (nmV xs).length = xs.length * 5
  | [] => rfl
  | p :: xs => by rw [nmV_cons]; simp only [List.length_cons]; rw [nmV_len xs]; omega
theorem nmV_app (xs ys : List Nm) : nmV (xs ++ ys) = nmV xs ++ nmV ys := by simp [nmV]
theorem nmV_one (p : Nm) : nmV [p] = encN p := by simp [nmV]
theorem nmV_at : ∀ (xs : List Nm) (k : Nat) (p : Nm), xs[k]? = some p → (nmV xs)[k * 5]? = some (.string p.t) ∧ (nmV xs)[k * 5 + 1]? = some (.string p.l) ∧ (nmV xs)[k * 5 + 2]? = some (.int .i64 p.s) ∧ (nmV xs)[k * 5 + 3]? = some (.int .i64 p.f) ∧ (nmV xs)[k * 5 + 4]? = some (.int .i64 p.u)
  | [], k, p, h => by simp at h
  | q :: xs, 0, p, h => by
    obtain rfl : q = p := by simpa using h
    rw [nmV_cons]; exact ⟨rfl, rfl, rfl, rfl, rfl⟩
  | q :: xs, k + 1, p, h => by
    have ih := nmV_at xs k p (by simpa using h)
    rw [nmV_cons, show (k + 1) * 5 = k * 5 + 1 + 1 + 1 + 1 + 1 by omega]
    simpa using ih

/-- Five cells hold a name. -/
def NmCell (w : World) (b o : Nat) (x : Nm) : Prop := w.cell? ⟨b, o, none⟩ = some (.string x.t) ∧ w.cell? ⟨b, o + 1, none⟩ = some (.string x.l) ∧ w.cell? ⟨b, o + 2, none⟩ = some (.int .i64 x.s) ∧ w.cell? ⟨b, o + 3, none⟩ = some (.int .i64 x.f) ∧ w.cell? ⟨b, o + 4, none⟩ = some (.int .i64 x.u)
theorem NmCell.below {w w' : World} {C b o : Nat} {x : Nm} (h : NmCell w b o x) (hb : Below C w w') (h1 : b < C) : NmCell w' b o x :=
  ⟨(hb.cell (p := ⟨b, o, none⟩) h1).trans h.1, (hb.cell (p := ⟨b, o + 1, none⟩) h1).trans h.2.1, (hb.cell (p := ⟨b, o + 2, none⟩) h1).trans h.2.2.1, (hb.cell (p := ⟨b, o + 3, none⟩) h1).trans h.2.2.2.1, (hb.cell (p := ⟨b, o + 4, none⟩) h1).trans h.2.2.2.2⟩
/-- A slice that holds the names xs, below block B. -/
def NmAt (w : World) (B : Nat) (A : Option Addr) (n : Nat) (xs : List Nm) : Prop :=
  n = xs.length ∧ (0 < n → ∃ b o, A = some ⟨b, o, none⟩ ∧ b < B ∧ ∀ (j : Nat) x, xs[j]? = some x → NmCell w b (o + j * 5) x)
theorem NmAt.below {w w' : World} {B C : Nat} {A : Option Addr} {n : Nat} {xs : List Nm} (h : NmAt w B A n xs) (hb : Below C w w') (hBC : B ≤ C) : NmAt w' B A n xs :=
  ⟨h.1, fun hp => by obtain ⟨b, o, h1, h2, h3⟩ := h.2 hp; exact ⟨b, o, h1, h2, fun j e he => (h3 j e he).below hb (by omega)⟩⟩
theorem NmAt.more {w : World} {B C : Nat} {A : Option Addr} {n : Nat} {xs : List Nm} (h : NmAt w B A n xs) (hBC : B ≤ C) : NmAt w C A n xs :=
  ⟨h.1, fun hp => by obtain ⟨b, o, h1, h2, h3⟩ := h.2 hp; exact ⟨b, o, h1, Nat.lt_of_lt_of_le h2 hBC, h3⟩⟩
theorem NmAt.grow {w w' : World} {A : Option Addr} {n : Nat} {xs : List Nm} (h : NmAt w w.heap.size A n xs) (hb : Below w.heap.size w w') : NmAt w' w'.heap.size A n xs := (h.below hb (Nat.le_refl _)).more hb.size
theorem NmAt.row {w : World} {B n : Nat} {A : Option Addr} {xs : List Nm} (h : NmAt w B A n xs) {k : Nat} {e : Nm} (he : xs[k]? = some e) :
    ∃ b o, A = some ⟨b, o, none⟩ ∧ b < B ∧ NmCell w b (o + k * 5) e := by
  have := (List.getElem?_eq_some_iff.1 he).1
  obtain ⟨b, o, h1, h2, h3⟩ := h.2 (by have := h.1; omega)
  exact ⟨b, o, h1, h2, h3 k e he⟩
theorem NmAt.pre {w : World} {B n k : Nat} {A : Option Addr} {xs : List Nm} (h : NmAt w B A n xs) (hk : k ≤ n) : NmAt w B A k (xs.take k) :=
  ⟨by rw [List.length_take]; have := h.1; omega, fun hp => by
    obtain ⟨b, o, h1, h2, h3⟩ := h.2 (by omega)
    exact ⟨b, o, h1, h2, fun j e he => h3 j e (by rw [List.getElem?_take] at he; split at he; exact he; cases he)⟩⟩
theorem own_nm {w : World} {lo n c : Nat} {A : Option Addr} {xs : List Nm} {t : TypeId} (h : w.ownsRow lo t 5 (.slice A n c) n (nmV xs)) : NmAt w w.heap.size A n xs := by
  have hl : xs.length = n := by have := h.1; rw [nmV_len] at this; omega
  refine ⟨hl.symm, fun hp => ?_⟩
  obtain ⟨g, cap, hv, _, hlt⟩ := World.ownsRow.form h hp
  have hA : A = some ⟨g, 0, none⟩ := by injection hv
  subst hA
  refine ⟨g, 0, rfl, hlt, fun k p hk => ?_⟩
  have hkl := (List.getElem?_eq_some_iff.1 hk).1
  have hc := nmV_at xs k p hk
  rw [Nat.zero_add]
  exact ⟨(World.ownsRow.cellAt h (k * 5) (by omega)).trans hc.1, (World.ownsRow.cellAt h (k * 5 + 1) (by omega)).trans hc.2.1, (World.ownsRow.cellAt h (k * 5 + 2) (by omega)).trans hc.2.2.1, (World.ownsRow.cellAt h (k * 5 + 3) (by omega)).trans hc.2.2.2.1, (World.ownsRow.cellAt h (k * 5 + 4) (by omega)).trans hc.2.2.2.2⟩

/-- The text is a language. -/
def langB (s : ByteArray) : Bool := decide (2 ≤ s.size) && decide (s.size ≤ 3) && lowAll s.data.toList
theorem lang_short (s : ByteArray) (h : ¬ 2 ≤ s.size) : langB s = false := by unfold langB; rw [decide_eq_false h]; rfl
theorem lang_long (s : ByteArray) (h : ¬ s.size ≤ 3) : langB s = false := by unfold langB; rw [decide_eq_false h, Bool.and_false]; rfl
theorem lang_mid (s : ByteArray) (h1 : 2 ≤ s.size) (h2 : s.size ≤ 3) : langB s = lowAll s.data.toList := by unfold langB; rw [decide_eq_true h1, decide_eq_true h2]; rfl
theorem lang_stop (s : ByteArray) (k : Nat) (h : k < s.size) (hc : lowB s[k] = false) : langB s = false := by unfold langB; rw [lowAll_stop s k h hc, Bool.and_false]
theorem lang_sum (s : ByteArray) (h : lowAll s.data.toList = true) : langB s = (decide ((2 : Int) ≤ (s.size : Int)) && decide ((s.size : Int) ≤ 3)) := by
  unfold langB; rw [h, Bool.and_true]; congr 1 <;> rw [decide_eq_decide] <;> omega
theorem lang_size (s : ByteArray) (h : langB s = true) : 2 ≤ s.size ∧ s.size ≤ 3 := by unfold langB at h; simp at h; exact h.1
/-- The structure is a name. -/
def nmB (x : Nm) : Bool := phraseB x.t && langB x.l && (decide (0 ≤ x.s) && decide (x.s ≤ 2)) && spB x.f x.u
/-- Two official names with one language that meet. -/
def clB (x y : Nm) : Bool := decide (x.s = 0) && decide (y.s = 0) && decide (x.l = y.l) && meetB x.f x.u y.f y.u
/-- Which of the tests of a name fails first. -/
theorem nm_cases (x : Nm) :
    (nmB x = true ∧ phraseB x.t = true ∧ langB x.l = true ∧ 0 ≤ x.s ∧ x.s ≤ 2 ∧ spB x.f x.u = true) ∨
    (nmB x = false ∧ (phraseB x.t = false ∨ (phraseB x.t = true ∧ (langB x.l = false ∨ (langB x.l = true ∧ ((decide (0 ≤ x.s) && decide (x.s ≤ 2)) = false ∨ (0 ≤ x.s ∧ x.s ≤ 2 ∧ spB x.f x.u = false))))))) := by
  unfold nmB
  cases h1 : phraseB x.t
  · exact .inr ⟨by simp, .inl rfl⟩
  cases h2 : langB x.l
  · exact .inr ⟨by simp, .inr ⟨rfl, .inl rfl⟩⟩
  cases h3 : (decide (0 ≤ x.s) && decide (x.s ≤ 2))
  · exact .inr ⟨by simp, .inr ⟨rfl, .inr ⟨rfl, .inl rfl⟩⟩⟩
  have h4 := h3
  simp at h4
  cases h5 : spB x.f x.u
  · exact .inr ⟨by simp, .inr ⟨rfl, .inr ⟨rfl, .inr ⟨h4.1, h4.2, rfl⟩⟩⟩⟩
  · exact .inl ⟨by simp, rfl, rfl, h4.1, h4.2, rfl⟩
theorem nm_parts {x : Nm} (h : nmB x = true) : phraseB x.t = true ∧ langB x.l = true ∧ 0 ≤ x.s ∧ x.s ≤ 2 ∧ spB x.f x.u = true := by
  rcases nm_cases x with ⟨_, h⟩ | ⟨h2, _⟩
  · exact h
  · rw [h2] at h; cases h
/-- Names that may stand in one list. -/
def Good (xs : List Nm) : Prop := ∀ (k : Nat) x, xs[k]? = some x → nmB x = true ∧ ∀ y ∈ xs.take k, clB x y = false
theorem good9_zero (xs : List Nm) : Good (xs.take 0) := fun k x h => by simp at h
theorem take_snoc9 {α : Type} {xs : List α} {k : Nat} {x : α} (h : xs[k]? = some x) : xs.take (k + 1) = xs.take k ++ [x] := by
  have hk : k < xs.length := (List.getElem?_eq_some_iff.1 h).1
  have hx : xs[k] = x := (List.getElem?_eq_some_iff.1 h).2
  rw [List.take_succ_eq_append_getElem hk, hx]
theorem good9_step {xs : List Nm} {k : Nat} {x : Nm} (h : xs[k]? = some x) (hg : Good (xs.take k)) (hb : nmB x = true) (hc : ∀ y ∈ xs.take k, clB x y = false) : Good (xs.take (k + 1)) := by
  have hk : k < xs.length := (List.getElem?_eq_some_iff.1 h).1
  intro j y hj
  rw [take_snoc9 h] at hj ⊢
  have hl : (xs.take k).length = k := by rw [List.length_take]; omega
  by_cases hlt : j < k
  · rw [List.getElem?_append_left (by omega)] at hj
    have := hg j y hj
    rw [List.take_append_of_le_length (by omega)]
    exact this
  · have hjl := (List.getElem?_eq_some_iff.1 hj).1
    rw [List.length_append, hl, List.length_singleton] at hjl
    obtain rfl : j = k := by omega
    rw [List.getElem?_append_right (by omega), hl, Nat.sub_self] at hj
    obtain rfl : x = y := by simpa using hj
    rw [List.take_append_of_le_length (by omega), List.take_of_length_le (by omega)]
    exact ⟨hb, hc⟩
theorem good9_bad {xs : List Nm} {k : Nat} {x : Nm} (h : xs[k]? = some x) (hb : nmB x = false) : ¬ Good xs := fun hg => by
  have := (hg k x h).1; rw [hb] at this; cases this
theorem good9_meet {xs : List Nm} {k m : Nat} {x y : Nm} (h : xs[k]? = some x) (hy : xs[m]? = some y) (hm : m < k) (hc : clB x y = true) : ¬ Good xs := fun hg => by
  have := (hg k x h).2 y (List.mem_of_getElem? (i := m) (by rw [List.getElem?_take, if_pos hm]; exact hy)); rw [hc] at this; cases this
theorem good9_any {xs : List Nm} {k : Nat} {x : Nm} (h : xs[k]? = some x) (hc : ¬ ∀ y ∈ xs.take k, clB x y = false) : ¬ Good xs := fun hg => hc (hg k x h).2
theorem good9_end {xs : List Nm} {k : Nat} (h : xs.length ≤ k) (hg : Good (xs.take k)) : Good xs := by rwa [List.take_of_length_le h] at hg
noncomputable instance (xs : List Nm) : Decidable (Good xs) := Classical.propDecidable _
/-- The list are names. -/
noncomputable def namesB (xs : List Nm) : Bool := decide (xs.length ≤ 12 ∧ Good xs)
theorem names_long {xs : List Nm} (h : 12 < xs.length) : namesB xs = false := decide_eq_false fun k => by omega
theorem names_no {xs : List Nm} (h : ¬ Good xs) : namesB xs = false := decide_eq_false fun k => h k.2
theorem names_yes {xs : List Nm} (h1 : xs.length ≤ 12) (h2 : Good xs) : namesB xs = true := decide_eq_true ⟨h1, h2⟩
theorem names_sum {xs : List Nm} (n : Nat) (hn : n = xs.length) (h2 : Good xs) : namesB xs = decide ((n : Int) ≤ 12) := by
  unfold namesB; rw [decide_eq_decide]; constructor
  · intro h; omega
  · intro h; exact ⟨by omega, h2⟩
theorem names_of {xs : List Nm} (h : namesB xs = true) : xs.length ≤ 12 ∧ Good xs := of_decide_eq_true h
theorem names_mem {xs : List Nm} (h : namesB xs = true) {x : Nm} (hx : x ∈ xs) : nmB x = true := by
  obtain ⟨k, hk, rfl⟩ := List.mem_iff_getElem.1 hx
  exact ((names_of h).2 k _ (List.getElem?_eq_getElem hk)).1
/-- The year is one of the years. -/
def yrB (y : Int) : Bool := decide (-3000 ≤ y) && decide (y ≤ 3000)
/-- The name is used in the year. -/
def usB (x : Nm) (y : Int) : Bool := decide (x.f ≤ y) && decide (y ≤ x.u)
/-- What is asked of names, languages and a year. -/
noncomputable def qC (xs : List Nm) (ls : List ByteArray) (y : Int) : Int := if namesB xs && ls.all langB then (if yrB y then 0 else 2) else 1
end
section
set_option linter.unusedVariables false
open Go.RowKit

section
variable {α : Type}
theorem set_unique (lt : α → α → Prop) (irr : ∀ a, ¬ lt a a) (tr : ∀ a b c, lt a b → lt b c → lt a c) : ∀ (xs ys : List α), xs.Pairwise lt → ys.Pairwise lt → (∀ x, x ∈ xs ↔ x ∈ ys) → xs = ys
  | [], [], _, _, _ => rfl
  | [], y :: ys, _, _, h => by have := (h y).2 (by simp); simp at this
  | x :: xs, [], _, _, h => by have := (h x).1 (by simp); simp at this
  | x :: xs, y :: ys, hx, hy, h => by
    rw [List.pairwise_cons] at hx hy
    have e : x = y := by
      rcases List.mem_cons.1 ((h x).1 (by simp)) with h1 | h1
      · exact h1
      · rcases List.mem_cons.1 ((h y).2 (by simp)) with h2 | h2
        · exact h2.symm
        · exact absurd (tr _ _ _ (hy.1 x h1) (hx.1 y h2)) (irr y)
    subst e
    congr 1
    refine set_unique lt irr tr xs ys hx.2 hy.2 fun z => ⟨fun hz => ?_, fun hz => ?_⟩
    · rcases List.mem_cons.1 ((h z).1 (List.mem_cons_of_mem _ hz)) with h1 | h1
      · subst h1; exact absurd (hx.1 z hz) (irr z)
      · exact h1
    · rcases List.mem_cons.1 ((h z).2 (List.mem_cons_of_mem _ hz)) with h1 | h1
      · subst h1; exact absurd (hy.1 z hz) (irr z)
      · exact h1
variable [Inhabited α] [DecidableEq α]
theorem compact_set (lt le : α → α → Prop) (h1 : ∀ x a b, le x a → lt a b → lt x b) (h2 : ∀ a b, le a b → a ≠ b → lt a b) (h3 : ∀ a, le a a) (h4 : ∀ a b, lt a b → le a b) (zs : List α) (hs : zs.Pairwise le) :
    (Lib.compact zs).Pairwise lt ∧ ∀ x, x ∈ Lib.compact zs ↔ x ∈ zs := by
  have key : ∀ m, m ≤ zs.length → (Lib.compactUpTo zs.toArray m).Pairwise lt ∧ (∀ x, x ∈ Lib.compactUpTo zs.toArray m ↔ x ∈ zs.take m) ∧ (∀ x ∈ Lib.compactUpTo zs.toArray m, ∀ y, 0 < m → zs[m - 1]? = some y → le x y) := by
    intro m
    induction m with
    | zero => intro _; exact ⟨by simp [Lib.compactUpTo], by simp [Lib.compactUpTo], by simp [Lib.compactUpTo]⟩
    | succ m ih =>
      intro hm
      obtain ⟨i1, i2, i3⟩ := ih (by omega)
      have hml : m < zs.length := by omega
      have hd : zs.toArray[m]! = zs[m] := by simp [getElem!_pos, hml]
      have ht : zs.take (m + 1) = zs.take m ++ [zs[m]] := List.take_succ_eq_append_getElem hml
      rw [Lib.compactUpTo_succ, hd, ht]
      have hg : zs[m + 1 - 1]? = some zs[m] := by simp [hml]
      cases hk : Lib.keeps zs.toArray m
      · have hk2 : ¬ (m = 0 ∨ zs.toArray[m]! ≠ zs.toArray[m - 1]!) := by unfold Lib.keeps at hk; simpa using hk
        have hm0 : ¬ m = 0 := fun e => hk2 (.inl e)
        have hpl : m - 1 < zs.length := by omega
        have he : zs[m] = zs[m - 1] := by
          have h9 : zs.toArray[m]! = zs.toArray[m - 1]! := Classical.byContradiction fun h => hk2 (.inr h)
          rw [hd] at h9
          rw [h9]; simp [getElem!_pos, hpl]
        have hin : zs[m] ∈ zs.take m := by
          rw [he]
          apply List.mem_of_getElem? (i := m - 1)
          rw [List.getElem?_take, if_pos (by omega)]; simp [hpl]
        simp only [Bool.false_eq_true, if_false, List.append_nil]
        refine ⟨i1, fun x => ?_, fun x hx y _ hy => ?_⟩
        · rw [i2, List.mem_append, List.mem_singleton]
          constructor
          · exact .inl
          · rintro (h | h)
            · exact h
            · rw [h]; exact hin
        · rw [hg] at hy
          cases hy
          rw [he]
          exact i3 x hx _ (by omega) (by simp [hpl])
      · have hk2 : m = 0 ∨ zs.toArray[m]! ≠ zs.toArray[m - 1]! := by unfold Lib.keeps at hk; simpa using hk
        have hlt : ∀ x ∈ Lib.compactUpTo zs.toArray m, lt x zs[m] := fun x hx => by
          rcases hk2 with e | hne
          · subst e; have := (i2 x).1 hx; simp at this
          · by_cases hm0 : m = 0
            · subst hm0; have := (i2 x).1 hx; simp at this
            · have hpl : m - 1 < zs.length := by omega
              have hq : zs.toArray[m - 1]! = zs[m - 1] := by simp [getElem!_pos, hpl]
              rw [hd, hq] at hne
              have hle : le zs[m - 1] zs[m] := List.pairwise_iff_getElem.1 hs (m - 1) m hpl hml (by omega)
              exact h1 _ _ _ (i3 x hx _ (by omega) (by simp [hpl])) (h2 _ _ hle (fun e => hne e.symm))
        simp only [if_true]
        refine ⟨?_, fun x => ?_, fun x hx y _ hy => ?_⟩
        · rw [List.pairwise_append]
          exact ⟨i1, by simp, fun a ha b hb => by rw [List.mem_singleton] at hb; subst hb; exact hlt a ha⟩
        · rw [List.mem_append, List.mem_append, i2]
        · rw [hg] at hy
          cases hy
          rw [List.mem_append, List.mem_singleton] at hx
          rcases hx with hx | rfl
          · exact h4 _ _ (hlt x hx)
          · exact h3 _
  obtain ⟨k1, k2, _⟩ := key zs.length (Nat.le_refl _)
  refine ⟨k1, fun x => ?_⟩
  have := k2 x
  rw [List.take_length] at this
  exact this
end

/-- Texts as lists of bytes, and back. -/
def toL (xs : List ByteArray) : List (List UInt8) := xs.map fun s => s.data.toList
def ofL (ls : List (List UInt8)) : List ByteArray := ls.map fun l => ⟨l.toArray⟩
theorem ofL_toL (xs : List ByteArray) : ofL (toL xs) = xs := by
  unfold ofL toL; rw [List.map_map]
  conv => rhs; rw [← List.map_id xs]
  apply List.map_congr_left
  intro x _
  rfl
theorem mem_ofL (ls : List (List UInt8)) (x : ByteArray) : x ∈ ofL ls ↔ x.data.toList ∈ ls := by
  unfold ofL
  rw [List.mem_map]
  constructor
  · rintro ⟨l, hl, rfl⟩; exact hl
  · intro h; exact ⟨_, h, rfl⟩
def ltT (a b : ByteArray) : Prop := a.data.toList < b.data.toList
theorem ltT_irr (a : ByteArray) : ¬ ltT a a := List.lt_irrefl _
theorem ltT_tr (a b c : ByteArray) (h : ltT a b) (k : ltT b c) : ltT a c := List.lt_trans h k
theorem ltT_tri (a b : ByteArray) (h : ¬ ltT a b) (hne : a ≠ b) : ltT b a := by
  unfold ltT at *
  have h1 : b.data.toList ≤ a.data.toList := List.not_lt.1 h
  by_cases h2 : b.data.toList < a.data.toList
  · exact h2
  · exact absurd (ByteArray.ext (Array.toList_inj.1 (List.le_antisymm (List.not_lt.1 h2) h1))) hne
theorem less_dec (a b : ByteArray) : Op.bytesLess a.toList b.toList = decide (a.data.toList < b.data.toList) := by
  rw [bytesLess_eq, ByteArray.toList_eq, ByteArray.toList_eq]

/-- The texts of ys in alphabetical order, each once. -/
def setT (ys : List ByteArray) : List ByteArray := ofL (Lib.compact ((toL ys).mergeSort fun x y => decide (x ≤ y)))
def IsSetT (zs ys : List ByteArray) : Prop := zs.Pairwise ltT ∧ ∀ x, x ∈ zs ↔ x ∈ ys
theorem setT_is (ys : List ByteArray) : IsSetT (setT ys) ys := by
  have hp : ((toL ys).mergeSort fun x y => decide (x ≤ y)).Pairwise fun a b : List UInt8 => a ≤ b := by
    have := List.pairwise_mergeSort (le := fun (x y : List UInt8) => decide (x ≤ y)) (fun a b c h1 h2 => by simp only [decide_eq_true_eq] at *; exact List.le_trans h1 h2) (fun a b => by simp only [Bool.or_eq_true, decide_eq_true_eq]; exact List.le_total a b) (toL ys)
    exact this.imp fun h => by simpa using h
  obtain ⟨h1, h2⟩ := compact_set (fun a b : List UInt8 => a < b) (fun a b => a ≤ b) (fun x a b h k => List.lt_of_le_of_lt h k) (fun a b h hne => by
    by_cases k : a < b
    · exact k
    · exact absurd (List.le_antisymm h (List.not_lt.1 k)) hne) (fun a => List.le_refl a) (fun a b h => List.le_of_lt h) _ hp
  refine ⟨?_, fun x => ?_⟩
  · unfold setT ofL
    rw [List.pairwise_map]
    exact h1
  · unfold setT
    rw [mem_ofL, h2, List.mem_mergeSort]
    unfold toL
    rw [List.mem_map]
    constructor
    · rintro ⟨s, hs, e⟩
      rw [← show s = x from ByteArray.ext (Array.toList_inj.1 e)]; exact hs
    · intro h; exact ⟨x, h, rfl⟩
theorem setT_unique {zs zs' ys : List ByteArray} (h : IsSetT zs ys) (k : IsSetT zs' ys) : zs = zs' := set_unique ltT ltT_irr ltT_tr zs zs' h.1 k.1 fun x => (h.2 x).trans (k.2 x).symm
theorem setT_eq {zs ys : List ByteArray} (h : IsSetT zs ys) : zs = setT ys := setT_unique h (setT_is ys)
theorem setT_len (ys : List ByteArray) : (setT ys).length ≤ ys.length := by
  unfold setT ofL
  rw [List.length_map]
  refine Nat.le_trans (Lib.compact_length_le _) ?_
  rw [List.length_mergeSort]; unfold toL; rw [List.length_map]; exact Nat.le_refl _
theorem setT_nil : setT [] = [] := (setT_eq (ys := []) ⟨List.Pairwise.nil, by simp⟩).symm

/-- What is put into a list at the place k. -/
theorem ins_at {xs ys : List ByteArray} {s : ByteArray} {k : Nat} (h : IsSetT xs ys) (hk : k ≤ xs.length) (h1 : ∀ x ∈ xs.take k, ltT x s) (h2 : ∀ x, xs[k]? = some x → ¬ ltT x s ∧ x ≠ s) : IsSetT (xs.take k ++ [s] ++ xs.drop k) (ys ++ [s]) := by
  have hall : ∀ x ∈ xs.drop k, ltT s x := fun x hx => by
    by_cases hkl : k < xs.length
    · have hy := h2 xs[k] (List.getElem?_eq_getElem hkl)
      have hsy := ltT_tri _ _ hy.1 hy.2
      rw [List.drop_eq_getElem_cons hkl, List.mem_cons] at hx
      rcases hx with rfl | hx
      · exact hsy
      · obtain ⟨j, hj, rfl⟩ := List.mem_iff_getElem.1 hx
        rw [List.length_drop] at hj
        rw [List.getElem_drop]
        exact ltT_tr _ _ _ hsy (List.pairwise_iff_getElem.1 h.1 k (k + 1 + j) hkl (by omega) (by omega))
    · rw [List.drop_of_length_le (by omega)] at hx; simp at hx
  have hsp : xs = xs.take k ++ xs.drop k := (List.take_append_drop k xs).symm
  have hpw := h.1
  rw [hsp, List.pairwise_append] at hpw
  refine ⟨?_, fun x => ?_⟩
  · rw [List.append_assoc, List.pairwise_append]
    refine ⟨hpw.1, ?_, fun a ha b hb => ?_⟩
    · rw [List.singleton_append, List.pairwise_cons]
      exact ⟨hall, hpw.2.1⟩
    · rw [List.singleton_append, List.mem_cons] at hb
      rcases hb with rfl | hb
      · exact h1 a ha
      · exact hpw.2.2 a ha b hb
  · rw [List.mem_append, List.mem_append, List.mem_append, List.mem_singleton, ← h.2 x]
    constructor
    · rintro ((h3 | h3) | h3)
      · exact .inl (List.mem_of_mem_take h3)
      · exact .inr h3
      · exact .inl (List.mem_of_mem_drop h3)
    · rintro (h3 | h3)
      · rw [hsp, List.mem_append] at h3
        rcases h3 with h3 | h3
        · exact .inl (.inl h3)
        · exact .inr h3
      · exact .inl (.inr h3)
theorem ins_in {xs ys : List ByteArray} {s : ByteArray} {k : Nat} (h : IsSetT xs ys) (hk : xs[k]? = some s) : IsSetT xs (ys ++ [s]) :=
  ⟨h.1, fun x => by
    rw [List.mem_append, List.mem_singleton, ← h.2 x]
    constructor
    · exact .inl
    · rintro (h1 | rfl)
      · exact h1
      · exact List.mem_of_getElem? hk⟩

/-- The numbers of ys ascending, each once. -/
def setI (ys : List Int) : List Int := Lib.compact (ys.mergeSort fun x y => decide (x ≤ y))
def IsSetI (zs ys : List Int) : Prop := zs.Pairwise (fun a b : Int => a < b) ∧ ∀ x, x ∈ zs ↔ x ∈ ys
theorem setI_is (ys : List Int) : IsSetI (setI ys) ys := by
  have hp : (ys.mergeSort fun x y => decide (x ≤ y)).Pairwise fun a b : Int => a ≤ b := by
    have := List.pairwise_mergeSort (le := fun (x y : Int) => decide (x ≤ y)) (fun a b c h1 h2 => by simp only [decide_eq_true_eq] at *; omega) (fun a b => by simp only [Bool.or_eq_true, decide_eq_true_eq]; omega) ys
    exact this.imp fun h => by simpa using h
  obtain ⟨h1, h2⟩ := compact_set (fun a b : Int => a < b) (fun a b => a ≤ b) (fun x a b h k => by omega) (fun a b h hne => by omega) (fun a => by omega) (fun a b h => by omega) _ hp
  exact ⟨h1, fun x => by unfold setI; rw [h2, List.mem_mergeSort]⟩
theorem setI_eq {zs ys : List Int} (h : IsSetI zs ys) : zs = setI ys := set_unique (fun a b : Int => a < b) (fun a => by omega) (fun a b c h k => by omega) zs _ h.1 (setI_is ys).1 fun x => (h.2 x).trans ((setI_is ys).2 x).symm
theorem setI_len (ys : List Int) : (setI ys).length ≤ ys.length := by
  unfold setI
  refine Nat.le_trans (Lib.compact_length_le _) ?_
  rw [List.length_mergeSort]; exact Nat.le_refl _
theorem setI_nil : setI [] = [] := (setI_eq (ys := []) ⟨List.Pairwise.nil, by simp⟩).symm
end
end Go.Proofs.YtglmibmjbignbaaGreatDoor
