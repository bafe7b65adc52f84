/-
  The contracts of the laws' helpers on slices of spans: szSpanS, toSpanS, eqSpanS.
-/
import Derived.Test.YtkbkgbhnfopgnaaDoorMq9
import Derived.Laws.NewBlocks
import Derived.OwnWalk
import Derived.Laws.OwnMore
import Derived.Deep.AppendLies
import Derived.Deep.RegionHeld3
import Derived.Deep.DeepCutAuto
import Derived.Test.YtkbkgbhnfopgnaaDoorClass
import Derived.IntWalk
import Derived.Deep.RegionWith
namespace Go.Proofs.YtkbkgbhnfopgnaaDoor
section
set_option linter.unusedVariables false
open Go.RowKit

theorem info_span : (Tryd.prog.info? 29).map (fun i => (i.zero, i.size, i.bytes)) = some (some (.agg #[.int .i64 0, .int .i64 0]), 2, 16) := by kernel_rfl
def copySp (xs : List Spn) (n k : Nat) : List Value := spanV (xs.take k) ++ List.replicate ((n - k) * 2) (.int .i64 0)
theorem copySp_zero (xs : List Spn) (n : Nat) : (madeCells #[Value.int .i64 0, Value.int .i64 0] (n * 2)).toList = copySp xs n 0 := by
  apply List.ext_getElem?
  intro j
  by_cases h : j < n * 2
  · have h2 : j % 2 = 0 ∨ j % 2 = 1 := by omega
    rcases h2 with h2 | h2 <;> simp [madeCells, copySp, spanV, h, h2]
  · rw [List.getElem?_eq_none (by simp [madeCells]; omega), List.getElem?_eq_none (by simp [copySp, spanV]; omega)]
theorem copySp_step (xs : List Spn) (n k : Nat) (p : Spn) (hn : xs.length = n) (h : xs[k]? = some p) : ((copySp xs n k).set (k * 2) (.int .i64 p.1)).set (k * 2 + 1) (.int .i64 p.2) = copySp xs n (k + 1) := by
  have hl := (List.getElem?_eq_some_iff.1 h).1
  have he : xs[k] = p := (List.getElem?_eq_some_iff.1 h).2
  have hs : (spanV (xs.take k)).length = k * 2 := by rw [spanV_len, List.length_take]; omega
  unfold copySp
  rw [List.set_append_right _ _ (by omega), List.set_append_right _ _ (by omega), List.take_succ_eq_append_getElem hl, he, spanV_app, spanV_one, hs, Nat.sub_self, List.append_assoc]
  congr 1
  obtain ⟨d, hd⟩ : ∃ d, n - k = d + 1 := ⟨n - k - 1, by omega⟩
  rw [hd, show n - (k + 1) = d by omega, show (d + 1) * 2 = d * 2 + 1 + 1 by omega, List.replicate_succ, List.replicate_succ, show k * 2 + 1 - k * 2 = 1 by omega]
  rfl
theorem copySp_all (xs : List Spn) (n : Nat) (hn : xs.length = n) : copySp xs n n = spanV xs := by
  unfold copySp; rw [List.take_of_length_le (by omega), Nat.sub_self]; simp

theorem below_set2' {B : Nat} {w w' : World} (h : Below B w w') {g : Nat} (hg : B ≤ g) (i j : Nat) (x y : Value) : Below B w ((w'.setCell ⟨g, i, none⟩ x).setCell ⟨g, j, none⟩ y) := (h.setCell hg x).setCell hg y
theorem keep_cells {W W' : World} {b c p q : Nat} {x y u v : Value} (h : W.cell? ⟨b, p, none⟩ = some x ∧ W.cell? ⟨b, p + 1, none⟩ = some y ∧ W.cell? ⟨c, q, none⟩ = some u ∧ W.cell? ⟨c, q + 1, none⟩ = some v ∧ b < W.heap.size ∧ c < W.heap.size) (hb : Below W.heap.size W W') :
    W'.cell? ⟨b, p, none⟩ = some x ∧ W'.cell? ⟨b, p + 1, none⟩ = some y ∧ W'.cell? ⟨c, q, none⟩ = some u ∧ W'.cell? ⟨c, q + 1, none⟩ = some v ∧ b < W'.heap.size ∧ c < W'.heap.size := by
  obtain ⟨h0, h1, h2, h3, l1, l2⟩ := h
  exact ⟨(hb.cell (p := ⟨b, p, none⟩) l1).trans h0, (hb.cell (p := ⟨b, p + 1, none⟩) l1).trans h1, (hb.cell (p := ⟨c, q, none⟩) l2).trans h2, (hb.cell (p := ⟨c, q + 1, none⟩) l2).trans h3, Nat.lt_of_lt_of_le l1 hb.size, Nat.lt_of_lt_of_le l2 hb.size⟩
theorem cEqSpan (x y : Int) (w : World) :
    Calls Tryd.prog 42 #[.agg #[.int .i64 x, .int .i64 y], .agg #[.int .i64 x, .int .i64 y]] w fun e w' => e = .returned (.bool true) ∧ Below w.heap.size w w' := by
  have hx : (x != x) = false := by simp
  have hy : (y != y) = false := by simp
  go_enter Tryd.func42, Tryd.ntmps42
  go_wp2
  go_ret
  exact ⟨rfl, ((Below.refl _ _).alloc (Nat.le_refl _) _).alloc (by simp) _⟩

end
section
set_option linter.unusedVariables false
open Go.RowKit

theorem keep_three {W W' : World} {B b q : Nat} {x y v : Value} (h : W.cell? ⟨B, 0, none⟩ = some x ∧ W.cell? ⟨B, 1, none⟩ = some y ∧ W.cell? ⟨b, q, none⟩ = some v ∧ B < W.heap.size ∧ b < W.heap.size) (hb : Below W.heap.size W W') :
    W'.cell? ⟨B, 0, none⟩ = some x ∧ W'.cell? ⟨B, 1, none⟩ = some y ∧ W'.cell? ⟨b, q, none⟩ = some v ∧ B < W'.heap.size ∧ b < W'.heap.size := by
  obtain ⟨h0, h1, h2, l1, l2⟩ := h
  exact ⟨(hb.cell (p := ⟨B, 0, none⟩) l1).trans h0, (hb.cell (p := ⟨B, 1, none⟩) l1).trans h1, (hb.cell (p := ⟨b, q, none⟩) l2).trans h2, Nat.lt_of_lt_of_le l1 hb.size, Nat.lt_of_lt_of_le l2 hb.size⟩

end
section
set_option linter.unusedVariables false
open Go.RowKit

def cntS : List Spn → Int
  | [] => 0
  | p :: xs => p.2 - p.1 + 1 + cntS xs
theorem cntS_app (xs ys : List Spn) : cntS (xs ++ ys) = cntS xs + cntS ys := by
  induction xs with
  | nil => simp [cntS]
  | cons p xs ih => rw [List.cons_append, cntS, cntS, ih]; omega
theorem cntS_step {xs : List Spn} {k : Nat} {p : Spn} (h : xs[k]? = some p) : cntS (xs.take (k + 1)) = cntS (xs.take k) + (p.2 - p.1 + 1) := by
  have hl := (List.getElem?_eq_some_iff.1 h).1
  have he : xs[k] = p := (List.getElem?_eq_some_iff.1 h).2
  rw [List.take_succ_eq_append_getElem hl, he, cntS_app]; simp [cntS]
theorem cntS_bd {xs : List Spn} (h : ∀ p ∈ xs, spB p.1 p.2 = true) : 0 ≤ cntS xs ∧ cntS xs ≤ xs.length * 6001 := by
  induction xs with
  | nil => simp [cntS]
  | cons p xs ih =>
    have h1 := spB_bd (h p List.mem_cons_self)
    have h2 := ih (fun q hq => h q (List.mem_cons_of_mem _ hq))
    rw [cntS, List.length_cons]; omega
theorem years_mem {xs : List Spn} (h : yearsB xs = true) : ∀ p ∈ xs, spB p.1 p.2 = true := by
  intro p hp
  obtain ⟨k, hk, he⟩ := List.mem_iff_getElem.1 hp
  exact chainB_sp (yearsB_yes h).2 hk (by rw [← he]; exact List.getElem?_eq_getElem hk)
theorem cnt_take_bd {xs : List Spn} (h : yearsB xs = true) (k : Nat) : 0 ≤ cntS (xs.take k) ∧ cntS (xs.take k) ≤ 72012 := by
  have h1 := cntS_bd (xs := xs.take k) (fun p hp => years_mem h p (List.mem_of_mem_take hp))
  have h2 := (yearsB_yes h).1
  have h3 : (xs.take k).length ≤ 12 := by rw [List.length_take]; omega
  omega

def cntV (xs : List Spn) : Value := if yearsB xs then .tuple #[.int .i64 (cntS xs), .int .i64 0] else .tuple #[.int .i64 0, .int .i64 1]
theorem cntV_ok {xs : List Spn} (h : yearsB xs = true) : cntV xs = .tuple #[.int .i64 (cntS xs), .int .i64 0] := by unfold cntV; rw [if_pos h]
theorem cntV_bad {xs : List Spn} (h : yearsB xs = false) : cntV xs = .tuple #[.int .i64 0, .int .i64 1] := by unfold cntV; rw [if_neg (by simp [h])]

end
end Go.Proofs.YtkbkgbhnfopgnaaDoor
