/-
  What a walk is told of a rule that came in by value and of a slice of rules; the contracts of the laws' helpers at one rule.
-/
import Derived.Test.YtnfdbpfegmodcaaDoorRule
import Derived.Deep.Slices
import Derived.Deep.Fields
import Derived.ChangeSame
import Derived.Lib.SmallJoins
import Derived.Below
namespace Go.Proofs.YtnfdbpfegmodcaaDoor
set_option linter.unusedVariables false
open Go.ChangeShapes Go.WideShapes Go.Deep Go.RowKit

theorem exists_listR {α : Type} {Q : Nat → α → Prop} : ∀ (n : Nat), (∀ i, i < n → ∃ p, Q i p) → ∃ l : List α, l.length = n ∧ ∀ (i : Nat) p, l[i]? = some p → Q i p
  | 0, _ => ⟨[], rfl, fun i p h => by simp at h⟩
  | n + 1, h => by
    obtain ⟨l, hl, hq⟩ := exists_listR n (fun i hi => h i (by omega))
    obtain ⟨p, hp⟩ := h n (by omega)
    refine ⟨l ++ [p], by simp [hl], fun i q hi => ?_⟩
    by_cases hlt : i < n
    · rw [List.getElem?_append_left (by omega)] at hi; exact hq i q hi
    · rw [List.getElem?_append_right (by omega)] at hi
      have hil := (List.getElem?_eq_some_iff.1 hi).1
      simp at hil
      have hin : i = n := by omega
      subst hin
      rw [hl, Nat.sub_self] at hi
      obtain rfl : p = q := by simpa using hi
      exact hp

/-- Two cells hold the slice and the text of the rule r; the slice's numbers lie below block B. -/
def RuleCell (w : World) (B b o : Nat) (r : Ru) : Prop :=
  ∃ A n c, w.cell? ⟨b, o, none⟩ = some (.slice A n c) ∧ w.cell? ⟨b, o + 1, none⟩ = some (.string r.2) ∧ NumAt w B A n r.1 ∧ n ≤ maxLen ∧ r.2.size ≤ maxLen
theorem RuleCell.below {w w' : World} {B C b o : Nat} {r : Ru} (h : RuleCell w B b o r) (hb : Below C w w') (h1 : b < C) (h2 : B ≤ C) : RuleCell w' B b o r := by
  obtain ⟨A, n, c, k1, k2, k3, k4, k5⟩ := h
  exact ⟨A, n, c, (hb.cell (p := ⟨b, o, none⟩) h1).trans k1, (hb.cell (p := ⟨b, o + 1, none⟩) h1).trans k2, k3.below hb h2, k4, k5⟩
theorem RuleCell.more {w : World} {B C b o : Nat} {r : Ru} (h : RuleCell w B b o r) (h2 : B ≤ C) : RuleCell w C b o r := by
  obtain ⟨A, n, c, k1, k2, k3, k4, k5⟩ := h
  exact ⟨A, n, c, k1, k2, k3.more h2, k4, k5⟩
/-- A slice that holds the rules rs, all below block B. -/
def RulesAt (w : World) (B : Nat) (A : Option Addr) (n : Nat) (rs : List Ru) : Prop :=
  n = rs.length ∧ (0 < n → ∃ b o, A = some ⟨b, o, none⟩ ∧ b < B ∧ ∀ (j : Nat) r, rs[j]? = some r → RuleCell w B b (o + j * 2) r)
theorem RulesAt.below {w w' : World} {B C : Nat} {A : Option Addr} {n : Nat} {rs : List Ru} (h : RulesAt w B A n rs) (hb : Below C w w') (hBC : B ≤ C) : RulesAt w' B A n rs :=
  ⟨h.1, fun hp => by obtain ⟨b, o, h1, h2, h3⟩ := h.2 hp; exact ⟨b, o, h1, h2, fun j r hr => (h3 j r hr).below hb (by omega) hBC⟩⟩
theorem RulesAt.more {w : World} {B C : Nat} {A : Option Addr} {n : Nat} {rs : List Ru} (h : RulesAt w B A n rs) (hBC : B ≤ C) : RulesAt w C A n rs :=
  ⟨h.1, fun hp => by obtain ⟨b, o, h1, h2, h3⟩ := h.2 hp; exact ⟨b, o, h1, Nat.lt_of_lt_of_le h2 hBC, fun j r hr => (h3 j r hr).more hBC⟩⟩
theorem RulesAt.row {w : World} {B n : Nat} {A : Option Addr} {rs : List Ru} (h : RulesAt w B A n rs) {k : Nat} {r : Ru} (hr : rs[k]? = some r) :
    ∃ b o, A = some ⟨b, o, none⟩ ∧ b < B ∧ RuleCell w B b (o + k * 2) r := by
  have := (List.getElem?_eq_some_iff.1 hr).1
  obtain ⟨b, o, h1, h2, h3⟩ := h.2 (by have := h.1; omega)
  exact ⟨b, o, h1, h2, h3 k r hr⟩
theorem RulesAt.drewN {w : World} {B : Nat} {A : Option Addr} {n : Nat} {rs : List Ru} (h : RulesAt w B A n rs) (m : Nat) : RulesAt (w.drewN m) B A n rs := h

section
variable {H : Type} {enc : TypeId × Value → H} {w : World} {base : Nat} {held : Bool}
set_option maxRecDepth 100000 in
theorem ints_of {fuel : Nat} {v : Value} {x : DataW H × List MemPlace} (h : DataW.trod enc Tryd.prog w base (fun _ => true) held fuel 24 [v] = some x) :
    ∃ a n c xs, v = .slice a n c ∧ n ≤ maxLen ∧ NumAt w w.heap.size a n xs := by
  rcases open_ints Tryd.underlying24 Tryd.underlying2 (by kernel_rfl) h with ⟨hcs, _⟩ | ⟨a, l, c, zs, hcs, _, hl, hm, hz, _, hcell, hwz⟩
  · simp at hcs
    exact ⟨none, 0, 0, [], hcs, Nat.zero_le _, rfl, fun h => absurd h (by omega)⟩
  · simp at hcs
    have hi : IsInts .i64 w (some a) l c zs := .inr ⟨a, rfl, hl, hm, by simpa using hz, hcell, hwz⟩
    obtain ⟨h1, h2⟩ := numAt_arg hi
    exact ⟨some a, l, c, _, hcs, h1, h2⟩
end

/-- A block of two cells. -/
def PairAt (w : World) (B : Nat) (u v : Value) : Prop := B < w.heap.size ∧ w.cell? ⟨B, 0, none⟩ = some u ∧ w.cell? ⟨B, 1, none⟩ = some v
theorem PairAt.below {w w' : World} {B : Nat} {u v : Value} (h : PairAt w B u v) (hb : Below w.heap.size w w') : PairAt w' B u v :=
  ⟨Nat.lt_of_lt_of_le h.1 hb.size, (hb.cell (p := ⟨B, 0, none⟩) h.1).trans h.2.1, (hb.cell (p := ⟨B, 1, none⟩) h.1).trans h.2.2⟩
theorem PairAt.new (w : World) (u v : Value) (t : TypeId) : PairAt (w.alloc (.cells #[u, v] t)) w.heap.size u v :=
  ⟨by simp, by rw [World.cell?_alloc_at _ _ _ _ rfl]; rfl, by rw [World.cell?_alloc_at _ _ _ _ rfl]; rfl⟩
theorem alloc_below (w : World) (o : Obj) : Below w.heap.size w (w.alloc o) := (Below.refl _ _).alloc (Nat.le_refl _) _
theorem PairAt.alloc {w : World} {B : Nat} {u v : Value} (h : PairAt w B u v) (o : Obj) : PairAt (w.alloc o) B u v := h.below (alloc_below w o)
/-- One that may be written. -/
def PairW (w : World) (B : Nat) (u v : Value) : Prop := PairAt w B u v ∧ w.frozen? ⟨B, 0, none⟩ = false ∧ w.frozen? ⟨B, 1, none⟩ = false
theorem PairW.below {w w' : World} {B : Nat} {u v : Value} (h : PairW w B u v) (hb : Below w.heap.size w w') : PairW w' B u v :=
  ⟨h.1.below hb, (hb.frozen (p := ⟨B, 0, none⟩) h.1.1).trans h.2.1, (hb.frozen (p := ⟨B, 1, none⟩) h.1.1).trans h.2.2⟩
theorem PairW.new (w : World) (u v : Value) (t : TypeId) : PairW (w.alloc (.cells #[u, v] t)) w.heap.size u v :=
  ⟨PairAt.new w u v t, by unfold World.frozen?; rw [heap_alloc_new]; simp, by unfold World.frozen?; rw [heap_alloc_new]; simp⟩
theorem PairW.alloc {w : World} {B : Nat} {u v : Value} (h : PairW w B u v) (o : Obj) : PairW (w.alloc o) B u v := h.below (alloc_below w o)

/-- What szRule answers for a slice of n numbers and a text of m letters. -/
def szR (left : Int) (n m : Nat) : Int := if left < (n : Int) then -1 else if left - n < (m : Int) then -1 else left - n - m
theorem szR_ok {left : Int} {n m : Nat} (h : ¬ szR left n m < 0) : (n : Int) + m ≤ left ∧ szR left n m = left - n - m := by
  unfold szR at *
  split at h
  · omega
  · rename_i h1
    rw [if_neg h1]
    split at h
    · omega
    · rename_i h2
      rw [if_neg h2]
      omega
theorem szR_le {left : Int} {n m : Nat} (h : left ≤ 1048576) : szR left n m ≤ 1048576 := by
  unfold szR; split
  · omega
  · split <;> omega
end Go.Proofs.YtnfdbpfegmodcaaDoor
