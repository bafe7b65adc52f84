/-
  The contract of slices.Sort at a row of numbers of one's own.
-/
import Derived.Test.YtlogbgkbdjdkkaaShelf10
import Derived.Test.YtlogbgkbdjdkkaaIntRow
import Derived.Sort.OwnSortedInts
namespace Go.Proofs.Ytlogbgkbdjdkkaa
set_option linter.unusedVariables false
open Go.RowKit Go.Sort

def Srt10 (A : Option Addr) (n c base : Nat) (xs : List Int) (w : World) (e : Ending) (w' : World) : Prop :=
  e = .returned (.tuple #[]) ∧ w'.ownsRow base 2 1 (.slice A n c) n (intV (xs.mergeSort fun x y => decide (x ≤ y))) ∧ w.grownBy w' (Value.slice A n c).ownBlock
theorem tSort10 (A : Option Addr) (n c base : Nat) (xs : List Int) (w : World) (hbig : n ≤ 1048576) (h : w.ownsRow base 2 1 (.slice A n c) n (intV xs)) :
    Calls Try.prog 67 #[.slice A n c] w (Srt10 A n c base xs w) := by
  have hl : n = xs.length := by have := h.1; rw [intV_len] at this; omega
  rcases Nat.eq_zero_or_pos n with rfl | hp
  · have h1 := AnyG.slices_Sort_int_none Try.sortI A c w
    change Calls Try.prog 67 _ _ _ at h1
    refine h1.mono ?_
    rintro e w' ⟨rfl, rfl⟩
    have hx2 : xs = [] := List.eq_nil_of_length_eq_zero hl.symm
    subst hx2
    exact ⟨rfl, by rw [show (([] : List Int).mergeSort fun x y => decide (x ≤ y)) = [] from by simp]; exact h, World.grownBy.refl _ _⟩
  · rcases h.2 with ⟨_, h0⟩ | ⟨g, cap, cur, hv, h1, h2, h3, h4, h5, h6⟩
    · omega
    cases hv
    rw [Nat.mul_one] at h6
    have hH := holds_of_blockI (ss := xs) h2 (by rw [← hl]; exact h6)
    have k := AnyG.slices_Sort_int Try.sortI g 0 c xs w hH (Array.getElem?_eq_some_iff.1 h2).1 (by omega)
    rw [← hl] at k
    change Calls Try.prog 67 _ _ _ at k
    refine k.mono ?_
    rintro e w' ⟨rfl, q, os, rfl⟩
    have ho := ownsRow_sortedI (n := q) (os := os) (ss := xs) (ts := xs.mergeSort fun x y => decide (x ≤ y)) (List.length_mergeSort ..) h1 h2 (by omega) h4 h5
    rw [← hl] at ho
    exact ⟨rfl, ho, grownBy_sortedI _⟩
end Go.Proofs.Ytlogbgkbdjdkkaa
