/-
  The contracts of slices.Sort and slices.Compact at texts and at numbers of one's own, and of spec.l08Insert.
-/
import Derived.Test.YthlilfdndpnbkaaGreatDoorSetPlain
import Derived.Test.YthlilfdndpnbkaaGreatDoorShelfT
import Derived.Test.YthlilfdndpnbkaaGreatDoorMu9
import Derived.Test.YthlilfdndpnbkaaGreatDoorMu6
import Derived.Deep.RegionLaw
import Derived.Deep.AppendLies
import Derived.Deep.QuietTactic
import Derived.BigQuiet
import Derived.Shelf.SortG.Plain
namespace Go.Proofs.YthlilfdndpnbkaaGreatDoor
set_option linter.unusedVariables false
open Go.RowKit Go.Sort

theorem toList_beq' (a b : ByteArray) : (a.toList == b.toList) = decide (a = b) := by
  by_cases h : a = b
  · simp [h]
  · rw [decide_eq_false h, beq_eq_false_iff_ne]
    intro e
    rw [ByteArray.toList_eq, ByteArray.toList_eq] at e
    exact h (ByteArray.ext (Array.toList_inj.1 e))
theorem take_snocT {xs : List ByteArray} {k : Nat} {x : ByteArray} (h : xs[k]? = some x) : xs.take (k + 1) = xs.take k ++ [x] := by
  have hk : k < xs.length := (List.getElem?_eq_some_iff.1 h).1
  have hx : xs[k] = x := (List.getElem?_eq_some_iff.1 h).2
  rw [List.take_succ_eq_append_getElem hk, hx]
theorem strV_toL (xs : List ByteArray) : strV xs = (toL xs).map encStr := by
  unfold strV toL; rw [List.map_map]
  apply List.map_congr_left
  intro x _
  rfl
theorem strV_ofL (ls : List (List UInt8)) : strV (ofL ls) = ls.map encStr := by
  unfold strV ofL; rw [List.map_map]
  apply List.map_congr_left
  intro x _
  rfl
theorem toL_len (xs : List ByteArray) : (toL xs).length = xs.length := by simp [toL]
theorem own_prefix {w : World} {base g n cap m s : Nat} {e : TypeId} {xs : List Value} (h : w.ownsRow base e s (.slice (some ⟨g, 0, none⟩) n cap) n xs) (hm : m ≤ n) :
    w.ownsRow base e s (.slice (some ⟨g, 0, none⟩) m cap) m (xs.take (m * s)) := by
  rcases h.2 with ⟨hv, _⟩ | ⟨g', cap', cur, hv, h1, h2, h3, h4, h5, h6⟩
  · cases hv
  · cases hv
    have hle : m * s ≤ n * s := Nat.mul_le_mul_right _ hm
    refine ⟨by rw [List.length_take]; have := h.1; omega, .inr ⟨g, cap, cur, rfl, h1, h2, by omega, h4, h5, ?_⟩⟩
    rw [← h6, List.take_take, Nat.min_eq_left hle]

def SortedT (A : Option Addr) (n c base : Nat) (xs : List ByteArray) (w : World) (e : Ending) (w' : World) : Prop :=
  e = .returned (.tuple #[]) ∧ w'.ownsRow base 9 1 (.slice A n c) n (strV (ofL ((toL xs).mergeSort fun x y => decide (x ≤ y)))) ∧ w.grownBy w' (Value.slice A n c).ownBlock
theorem tSortT (A : Option Addr) (n c base : Nat) (xs : List ByteArray) (w : World) (hbig : n ≤ 1048576) (h : w.ownsRow base 9 1 (.slice A n c) n (strV xs)) :
    Calls Tryz.prog 72 #[.slice A n c] w (SortedT A n c base xs w) := by
  have hl : n = (toL xs).length := by have := h.1; rw [strV_len] at this; rw [toL_len]; omega
  rcases Nat.eq_zero_or_pos n with rfl | hp
  · have h1 := AnyG.slices_Sort_string_none Tryz.sortT A c w
    change Calls Tryz.prog 72 _ _ _ at h1
    refine h1.mono ?_
    rintro e w' ⟨rfl, rfl⟩
    have hx : toL xs = [] := List.eq_nil_of_length_eq_zero hl.symm
    have hx2 : xs = [] := by have := congrArg List.length hx; rw [toL_len] at this; exact List.eq_nil_of_length_eq_zero this
    subst hx2
    exact ⟨rfl, by rw [show ofL ((toL ([] : List ByteArray)).mergeSort fun x y => decide (x ≤ y)) = [] from by simp [toL, ofL]]; exact h, World.grownBy.refl _ _⟩
  · rcases h.2 with ⟨_, h0⟩ | ⟨g, cap, cur, hv, h1, h2, h3, h4, h5, h6⟩
    · omega
    cases hv
    rw [strV_toL, Nat.mul_one] at h6
    have hH := holds_of_block (ss := toL xs) h2 (by rw [← hl]; exact h6)
    have k := AnyG.slices_Sort_string Tryz.sortT g 0 c (toL xs) w hH (Array.getElem?_eq_some_iff.1 h2).1 (by omega)
    rw [← hl] at k
    change Calls Tryz.prog 72 _ _ _ at k
    refine k.mono ?_
    rintro e w' ⟨rfl, q, os, rfl⟩
    have ho := ownsRow_sorted (n := q) (os := os) (ss := toL xs) (ts := (toL xs).mergeSort fun x y => decide (x ≤ y)) (List.length_mergeSort ..) h1 h2 (by omega) h4 h5
    rw [← hl] at ho
    rw [← strV_ofL] at ho
    exact ⟨rfl, ho, grownBy_sorted _⟩
def CompT (A : Option Addr) (n c base : Nat) (xs : List ByteArray) (w : World) (e : Ending) (w' : World) : Prop :=
  ∃ m, e = .returned (.slice A m c) ∧ w'.ownsRow base 9 1 (.slice A m c) m (strV (ofL (Lib.compact (toL xs)))) ∧ w.grownBy w' (Value.slice A n c).ownBlock
theorem tCompT (A : Option Addr) (n c base : Nat) (xs : List ByteArray) (w : World) (hbig : n ≤ 1048576) (h : w.ownsRow base 9 1 (.slice A n c) n (strV xs)) :
    Calls Tryz.prog 73 #[.slice A n c] w (CompT A n c base xs w) := by
  have hl : n = (toL xs).length := by have := h.1; rw [strV_len] at this; rw [toL_len]; omega
  rcases Nat.eq_zero_or_pos n with rfl | hp
  · refine (Tryz.slices_Compact_string_empty A c w).mono ?_
    rintro e w' ⟨rfl, rfl⟩
    have hx : toL xs = [] := List.eq_nil_of_length_eq_zero hl.symm
    have hx2 : xs = [] := by have := congrArg List.length hx; rw [toL_len] at this; exact List.eq_nil_of_length_eq_zero this
    subst hx2
    exact ⟨0, rfl, h, World.grownBy.refl _ _⟩
  · rcases h.2 with ⟨_, h0⟩ | ⟨g, cap, cur, hv, h1, h2, h3, h4, h5, h6⟩
    · omega
    cases hv
    rw [strV_toL, Nat.mul_one] at h6
    have hH := holds_of_block (ss := toL xs) h2 (by rw [← hl]; exact h6)
    have k := Tryz.slices_Compact_string g 0 c (toL xs) w hH (by omega) (by omega)
    rw [← hl] at k
    refine k.mono ?_
    rintro e w' ⟨rfl, q, rfl⟩
    have hcl := Lib.compact_length_le (toL xs)
    have ho := ownsRow_sorted (n := q) (os := #[]) (ss := toL xs) (ts := Lib.compact (toL xs) ++ List.replicate ((toL xs).length - (Lib.compact (toL xs)).length) []) (by rw [List.length_append, List.length_replicate]; omega) h1 h2 (by omega) h4 h5
    rw [grow_empty, ← hl] at ho
    have hp := own_prefix (m := (Lib.compact (toL xs)).length) ho (by omega)
    rw [Nat.mul_one, ← List.map_take, List.take_left, ← strV_ofL] at hp
    have hg := grownBy_sorted (w := w) (g := g) (n := q) (os := #[]) (Lib.compact (toL xs) ++ List.replicate ((toL xs).length - (Lib.compact (toL xs)).length) []).toArray
    rw [grow_empty, ← hl] at hg
    exact ⟨_, rfl, hp, hg⟩
def SortedI (A : Option Addr) (n c base : Nat) (xs : List Int) (w : World) (e : Ending) (w' : World) : Prop :=
  e = .returned (.tuple #[]) ∧ w'.ownsRow base 2 1 (.slice A n c) n (intV (xs.mergeSort fun x y => decide (x ≤ y))) ∧ w.grownBy w' (Value.slice A n c).ownBlock
def CompI (A : Option Addr) (n c base : Nat) (xs : List Int) (w : World) (e : Ending) (w' : World) : Prop :=
  ∃ m, e = .returned (.slice A m c) ∧ w'.ownsRow base 2 1 (.slice A m c) m (intV (Lib.compact xs)) ∧ w.grownBy w' (Value.slice A n c).ownBlock
end Go.Proofs.YthlilfdndpnbkaaGreatDoor
