/-
  The contracts of spec.DrawUnionOf: two drawn lists of spans.
-/
import Derived.Test.YthlajgkelggnkaaLawCounts
namespace Go.Proofs.Ythlajgkelggnkaa
set_option linter.unusedVariables false
open Go.RowKit

def PairRowPost (w : World) (e : Ending) (w' : World) : Prop := ∃ (g k c : Nat) (xs : List Sp) (g' k' c' : Nat) (ys : List Sp), k ≤ 13 ∧ k' ≤ 13 ∧ e = .returned (.tuple #[.slice (some ⟨g, 0, none⟩) k c, .slice (some ⟨g', 0, none⟩) k' c']) ∧ Row w' (some ⟨g, 0, none⟩) k c xs ∧ Row w' (some ⟨g', 0, none⟩) k' c' ys ∧ Below w.heap.size w w'

set_option maxHeartbeats 1000000 in
theorem cDrawUnion (A : Option Addr) (len cap : Nat) (w : World) (hlen : len ≤ 1048576) (h : CodeIn w A len) :
    Calls Try.prog 6 #[.slice A len cap] w (PairRowPost w) := by
  have C0 := Lib.hid (cFrom A len cap _ hlen h)
  clear h
  go_enter Try.func6, Try.ntmps6
  go_wp2_with fail
  refine C0.out.mono ?_
  rintro e w1 ⟨rfl, hS1, hb1⟩
  have hl1 := hS1.lt
  have C1 := Lib.hid (cDrawYears w.heap.size len w1 hlen hl1 hS1)
  clear hS1 C0
  go_wp2_with fail
  refine C1.out.mono ?_
  rintro e w2 ⟨v, k, xs, hk, rfl, ho0, hS2, g2⟩
  have hb2 : Below w.heap.size w w2 := hb1.grown g2 hb1.size (fun z hz => by cases hz; exact Nat.le_refl _)
  have C2 := Lib.hid (cDrawYears w.heap.size len w2 hlen hS2.lt hS2)
  have HO := Lib.hid ho0
  clear hS2 g2 C1 ho0
  go_wp2_with fail
  refine C2.out.mono ?_
  rintro e w3 ⟨v', k', ys, hk', rfl, ⟨g', c', hv', _, ho'⟩, _, g3⟩
  obtain ⟨g, c, hv, _, ho⟩ := HO.out.grown hl1 g3
  subst hv
  subst hv'
  have hb3 : Below w.heap.size w w3 := hb2.grown g3 hb2.size (fun z hz => by cases hz; exact Nat.le_refl _)
  have HP := Lib.hid (show PairRowPost w (.returned (.tuple #[.slice (some ⟨g, 0, none⟩) k c, .slice (some ⟨g', 0, none⟩) k' c'])) w3 from ⟨g, k, c, xs, g', k', c', ys, hk, hk', rfl, Row.of ho, Row.of ho', hb3⟩)
  clear ho ho' g3 hb3 C2
  go_wp2_with fail
  go_ret2
  exact HP.out

/-! The years of a list, counted. -/
def inRange (xs : List Sp) (lo : Int) : Nat → Nat
  | 0 => 0
  | n + 1 => inRange xs lo n + (if hasB xs (lo + n) then 1 else 0)
theorem inRange_cons {p : Sp} {xs : List Sp} (h : Sep (p :: xs)) (lo : Int) : ∀ n, inRange (p :: xs) lo n = inRange [p] lo n + inRange xs lo n
  | 0 => rfl
  | n + 1 => by
    rw [inRange, inRange, inRange, inRange_cons h lo n]
    have e : hasB (p :: xs) (lo + n) = (hasB [p] (lo + n) || hasB xs (lo + n)) := by unfold hasB; simp
    have hn : ¬ (hasB [p] (lo + n) = true ∧ hasB xs (lo + n) = true) := fun ⟨h1, h2⟩ => by
      have h3 := h.above (inB_mem.1 h2)
      have h4 := (memS_one _ _).1 (inB_mem.1 h1)
      omega
    rw [e]
    cases h1 : hasB [p] (lo + n) <;> cases h2 : hasB xs (lo + n) <;> simp [h1, h2] at hn ⊢ <;> omega
theorem inRange_one (p : Sp) (hp : p.1 ≤ p.2) (lo : Int) (hlo : lo ≤ p.1) : ∀ n : Nat, (inRange [p] lo n : Int) = if lo + n ≤ p.1 then 0 else if lo + n ≤ p.2 + 1 then lo + n - p.1 else p.2 - p.1 + 1
  | 0 => by
    rw [if_pos (by omega)]; rfl
  | n + 1 => by
    have ih := inRange_one p hp lo hlo n
    rw [inRange]
    have e : hasB [p] (lo + n) = decide (p.1 ≤ lo + n ∧ lo + n ≤ p.2) := by
      rw [Bool.eq_iff_iff, inB_mem, memS_one, decide_eq_true_eq]
    rw [e]
    by_cases h1 : p.1 ≤ lo + n ∧ lo + n ≤ p.2
    · rw [decide_eq_true h1, if_pos rfl]
      push_cast
      rw [ih]
      split <;> split <;> (try split) <;> (try split) <;> omega
    · rw [decide_eq_false h1, if_neg (by simp)]
      push_cast
      rw [ih]
      split <;> split <;> (try split) <;> (try split) <;> omega
theorem cnt_range : ∀ {xs : List Sp}, Sep xs → cntS xs = (inRange xs (-3000) 6001 : Nat)
  | [], _ => by
    have h : ∀ n, inRange [] (-3000) n = 0 := by
      intro n
      induction n with
      | zero => rfl
      | succ n ih => rw [inRange, ih]; simp [hasB]
    rw [h]; rfl
  | p :: xs, h => by
    have h1 := ((sep_iff _).1 h).1 p (by simp)
    have h2 := cnt_range h.tail
    have h3 := inRange_one p h1.2.1 (-3000) h1.1 6001
    rw [cntS, inRange_cons h, h2]
    push_cast
    rw [h3, if_neg (by omega)]
    split <;> omega
/-- The years of the union are those of what is left and those of the second list. -/
theorem cnt_union {xs ys us ws : List Sp} (hy : Sep ys) (hu : Upto true xs ys us 3001) (hw : Upto false xs ys ws 3001) : cntS us = cntS ws + cntS ys := by
  rw [cnt_range hy, cnt_range hu.1, cnt_range hw.1]
  have key : ∀ n : Nat, n ≤ 6001 → inRange us (-3000) n = inRange ws (-3000) n + inRange ys (-3000) n := by
    intro n
    induction n with
    | zero => intro _; rfl
    | succ n ih =>
      intro hn
      have h0 := ih (by omega)
      have z0 : -3000 ≤ -3000 + (n : Int) ∧ -3000 + (n : Int) < 3001 := by omega
      have a := hu.2 (-3000 + (n : Int))
      have b := hw.2 (-3000 + (n : Int))
      rw [← inB_mem] at a b
      unfold askB at a b
      rw [if_pos rfl] at a
      rw [if_neg (by simp)] at b
      rw [inRange, inRange, inRange, h0]
      cases h1 : hasB us (-3000 + (n : Int)) <;> cases h2 : hasB ws (-3000 + (n : Int)) <;> cases h3 : hasB ys (-3000 + (n : Int)) <;> cases h4 : hasB xs (-3000 + (n : Int)) <;> simp [h1, h2, h3, h4, z0] at a b ⊢ <;> omega
  rw [key 6001 (Nat.le_refl _)]
  push_cast
  rfl
end Go.Proofs.Ythlajgkelggnkaa
