/-
  The contracts of spec.l07Table and spec.l07List: a drawn table and a drawn list of texts, in rows of one's own.
-/
import Derived.Test.YtmbahbnadkmnkaaPick7
import Derived.Test.YtmbahbnadkmnkaaNumAt
import Derived.Test.YtmbahbnadkmnkaaTexts
import Derived.Test.YtmbahbnadkmnkaaSp
import Derived.Deep.RegionWith
import Derived.Deep.CutRange
import Derived.Deep.AppendLies
namespace Go.Proofs.Ytmbahbnadkmnkaa
set_option linter.unusedVariables false
open Go.RowKit

theorem own_srcB {w w' : World} {base s n B : Nat} {t : TypeId} {v : Value} {xs : List Value} (h : w.ownsRow base t s v n xs) (hg : w.grownBy w' (some B)) (hB : B < base) : w'.ownsRow base t s v n xs :=
  h.kept hg (.inr (fun e => by have := (h.lt B e).1; omega))
theorem own_prefix {w : World} {B g n m c : Nat} {t : TypeId} {xs : List Value} (h : w.ownsRow B t 1 (.slice (some ⟨g, 0, none⟩) n c) n xs) (hm : m ≤ n) : w.ownsRow B t 1 (.slice (some ⟨g, 0, none⟩) m c) m (xs.take m) := by
  have hl := h.1
  rcases h.2 with ⟨he, h0⟩ | ⟨g', cap, cur, hv, hg, hb, h1, h2, h3, h4⟩
  · cases he
  · cases hv
    refine ⟨by rw [List.length_take]; omega, .inr ⟨g, c, cur, rfl, hg, hb, by omega, h2, h3, ?_⟩⟩
    rw [← h4, List.take_take]
    congr 1; omega
theorem intV_set (xs : List Int) (k : Nat) (x : Int) : (intV xs).set k (.int .i64 x) = intV (xs.set k x) := by unfold intV; rw [List.map_set]
theorem intV_take (xs : List Int) (k : Nat) : (intV xs).take k = intV (xs.take k) := by unfold intV; rw [List.map_take]
/-- A drawn row of numbers. -/
def TabPost (m : Nat) (w : World) (B len : Nat) (e : Ending) (w' : World) : Prop :=
  ∃ g n c xs, e = .returned (.slice (some ⟨g, 0, none⟩) n c) ∧ w'.ownsRow w.heap.size 2 1 (.slice (some ⟨g, 0, none⟩) n c) n (intV xs) ∧ n ≤ m ∧ Src w' B len ∧ w.grownBy w' (some B)
def start26 : List Int := [0, 1, 2, 3, 0, 1, 2, 0, 0, 2, 2, 4, 5, 5, 0, 1, 2, 6, 2, 3, 0, 1, 0, 2, 0, 2]
theorem grown_own {w w' : World} {B g : Nat} (h : w.grownBy w' (some B)) (hg : w.heap.size ≤ g) (i : Nat) (x : Value) : w.grownBy (w'.setCell ⟨g, i, none⟩ x) (some B) := grown_set1 h hg x

set_option maxHeartbeats 2000000 in
set_option maxRecDepth 100000 in
theorem cTable (B len : Nat) (w : World) (hlen : len ≤ 1048576) (h : Src w B len) :
    Calls Try.prog 51 #[.pointer (some ⟨B, 0, none⟩)] w (TabPost 26 w B len) := by
  have hlt := h.lt
  have hO := World.ownsRow_lit (e := 2) (base := w.heap.size) (size := 1) w (intV start26).toArray 26 (Nat.le_refl _) (by decide) (by decide)
  have hO1 : Hid ((w.alloc (.cells (intV start26).toArray 2)).ownsRow w.heap.size 2 1 (.slice (some ⟨w.heap.size, 0, none⟩) 26 26) 26 (intV start26)) := Lib.hid (by simpa using hO)
  have hS1 := Lib.hid (srcAlloc h (.cells (intV start26).toArray 2))
  have hG1 := Lib.hid (World.grownBy_alloc w (.cells (intV start26).toArray 2) (some B))
  have CN := Lib.hid (fun (V : World) (n : Int) (hV : Src V B len) (h1 : -1000000000 ≤ n) (h2 : n ≤ 10000000000) => cNext B len n V hlen h1 h2 hV)
  obtain ⟨w1, hw1⟩ : ∃ w1, w1 = w.alloc (.cells (intV start26).toArray 2) := ⟨_, rfl⟩
  rw [← hw1] at hO1 hS1 hG1
  have HW1 : Hid (w1 = w.alloc (.cells #[.int .i64 0, .int .i64 1, .int .i64 2, .int .i64 3, .int .i64 0, .int .i64 1, .int .i64 2, .int .i64 0, .int .i64 0, .int .i64 2, .int .i64 2, .int .i64 4, .int .i64 5, .int .i64 5, .int .i64 0, .int .i64 1, .int .i64 2, .int .i64 6, .int .i64 2, .int .i64 3, .int .i64 0, .int .i64 1, .int .i64 0, .int .i64 2, .int .i64 0, .int .i64 2] 2)) := Lib.hid hw1
  clear h hO hw1
  go_enter Try.func51, Try.ntmps51
  go_wp2_with fail
  rw [← HW1.out]
  obtain ⟨g, hg⟩ : ∃ g, g = w.heap.size := ⟨_, rfl⟩
  have HG : Hid (g = w.heap.size) := Lib.hid hg
  rw [← hg] at hO1 hlt ⊢
  clear hg
  refine (CN.out _ 4 hS1.out (by omega) (by omega)).mono ?_
  rintro e w2 ⟨r, hr0, hr1, rfl, hS2, hg2⟩
  have HO2 := Lib.hid (own_srcB hO1.out hg2 hlt)
  have HS2 := Lib.hid hS2
  have HG2 := Lib.hid (hG1.out.trans hg2)
  obtain ⟨j, rfl⟩ : ∃ j : Nat, r = j := ⟨r.toNat, by omega⟩
  have hj3 : j ≤ 3 := by omega
  clear hS2 hg2 hO1 hS1 hG1 HW1 hr1
  go_wp2_with fail
  go_loopw [4] (fun i wr => ∃ (k : Nat) (xs : List Int), k ≤ 3 ∧ i = .int .i64 k ∧ Hid (wr.ownsRow g 2 1 (.slice (some ⟨g, 0, none⟩) 26 26) 26 (intV xs)) ∧ Hid (Src wr B len) ∧ Hid (w.grownBy wr (some B))) (fun i _ => (intOf i).toNat)
  case atStart => exact ⟨j, _, hj3, rfl, HO2, HS2, HG2⟩
  case round =>
    clear HO2 HS2 HG2
    obtain ⟨k, xs, hk3, rfl, HO, HS, HGr⟩ := hrel
    by_cases hk : 0 < k
    · obtain ⟨q, rfl⟩ : ∃ q, k = q + 1 := ⟨k - 1, by omega⟩
      have hk2 : (0 : Int) < ((q + 1 : Nat) : Int) := by omega
      go_wp2_with fail
      refine (CN.out _ 26 HS.out (by omega) (by omega)).mono ?_
      rintro e w3 ⟨a, ha0, ha1, rfl, hS3, hg3⟩
      have HO3 := Lib.hid (own_srcB HO.out hg3 hlt)
      have HS3 := Lib.hid hS3
      have HG3 := Lib.hid (HGr.out.trans hg3)
      obtain ⟨i, rfl⟩ : ∃ i : Nat, a = i := ⟨a.toNat, by omega⟩
      have hi : i < 26 := by omega
      clear hS3 hg3 HO HS HGr ha1
      go_wp2_with fail
      refine (CN.out _ 10 HS3.out (by omega) (by omega)).mono ?_
      rintro e w4 ⟨b, hb0, hb1, rfl, hS4, hg4⟩
      have HO4 := Lib.hid (own_srcB HO3.out hg4 hlt)
      have HG4 := Lib.hid (HG3.out.trans hg4)
      have hst := (HO4.out.stored i (.int .i64 b)).1
      rw [intV_set] at hst
      have HST := Lib.hid hst
      have HS5 := Lib.hid (Src.set1 (i := i) hS4 hlt (.int .i64 b))
      have HG5 := Lib.hid (grown_own HG4.out (Nat.le_of_eq HG.out.symm) i (.int .i64 b))
      have f0 := HO4.out.frozenAt i
      have c0 := HO4.out.cellAt i (by omega)
      obtain ⟨v0, d0⟩ : ∃ u, w4.cell? ⟨g, i, none⟩ = some u := ⟨_, c0.trans (List.getElem?_eq_getElem (by have := HO4.out.1; omega))⟩
      have e1 : (i : Int) < 26 := by omega
      clear hS4 hg4 HO3 HS3 HG3 hst c0 hb1
      go_wp2_with fail
      go_roundw
      case rel => exact ⟨q, _, by omega, by go_num, HST, HS5, HG5⟩
      case measure => simp [intOf]
    · obtain rfl : k = 0 := by omega
      go_wp2_with fail
      refine (CN.out _ 30 HS.out (by omega) (by omega)).mono ?_
      rintro e w3 ⟨a, ha0, ha1, rfl, hS3, hg3⟩
      have HO3 := Lib.hid (own_srcB HO.out hg3 hlt)
      have HS3 := Lib.hid hS3
      have HG3 := Lib.hid (HGr.out.trans hg3)
      clear hS3 hg3 HO HS HGr ha1
      by_cases h0 : a = 0
      · subst h0
        have hp := own_prefix HO3.out (show 25 ≤ 26 by omega)
        rw [intV_take] at hp
        have HP := Lib.hid hp
        clear hp
        go_wp2_with fail
        go_ret
        exact ⟨g, 25, 26, _, rfl, by rw [← HG.out]; exact HP.out, by omega, HS3.out, HG3.out⟩
      have d0 : (a == 0) = false := by rw [beq_eq_false_iff_ne]; exact h0
      by_cases h1 : a = 1
      · subst h1
        have HS4 := Lib.hid (srcAlloc HS3.out (.cells #[.int .i64 (-1), .int .i64 10] 2))
        have HG4 := Lib.hid (HG3.out.trans (World.grownBy_alloc w3 (.cells #[.int .i64 (-1), .int .i64 10] 2) (some B)))
        have HO4 := Lib.hid (HO3.out.alloc (.cells #[.int .i64 (-1), .int .i64 10] 2))
        have HR := Lib.hid (rowLit w3 [-1, 10] (-1) 10 (by decide) 2)
        have hne : w3.heap.size ≠ B := by have := HS3.out.lt; omega
        have CP := Lib.hid (cPick B len w3.heap.size 2 2 (-1) 10 _ hlen (by omega) (by omega) hne HR.out HS4.out)
        clear HS3 HG3 HO3
        go_wp2_with fail
        refine CP.out.mono ?_
        rintro e w4 ⟨b, hb0, hb1, rfl, hS5, hg5⟩
        have HO5 := Lib.hid (own_srcB HO4.out hg5 hlt)
        have HG5 := Lib.hid (HG4.out.trans hg5)
        have hst := (HO5.out.stored 5 (.int .i64 b)).1
        rw [intV_set] at hst
        have HST := Lib.hid hst
        have HS6 := Lib.hid (Src.set1 (i := 5) hS5 hlt (.int .i64 b))
        have HG6 := Lib.hid (grown_own HG5.out (Nat.le_of_eq HG.out.symm) 5 (.int .i64 b))
        have f0 := HO5.out.frozenAt 5
        have c0 := HO5.out.cellAt 5 (by omega)
        obtain ⟨v0, dd⟩ : ∃ u, w4.cell? ⟨g, 5, none⟩ = some u := ⟨_, c0.trans (List.getElem?_eq_getElem (by have := HO5.out.1; omega))⟩
        clear hS5 hg5 hst c0 HO4 HS4 HG4
        go_wp2_with fail
        go_ret
        exact ⟨g, 26, 26, _, rfl, by rw [← HG.out]; exact HST.out, by omega, HS6.out, HG6.out⟩
      · have d1 : (a == 1) = false := by rw [beq_eq_false_iff_ne]; exact h1
        go_wp2_with fail
        go_ret
        exact ⟨g, 26, 26, _, rfl, by rw [← HG.out]; exact HO3.out, by omega, HS3.out, HG3.out⟩
end Go.Proofs.Ytmbahbnadkmnkaa
