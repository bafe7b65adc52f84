/-
  The contracts of CountYears of both packages.
-/
import Derived.Test.YtkbkgbhnfopgnaaDoorAreYears
namespace Go.Proofs.YtkbkgbhnfopgnaaDoor
set_option linter.unusedVariables false
open Go.RowKit

def cntS : List Spn → Int
  | [] => 0
  | p :: xs => p.2 - p.1 + 1 + cntS xs
theorem cntS_app (xs ys : List Spn) : cntS (xs ++ ys) = cntS xs + cntS ys := by
  induction xs with
  | nil => simp [cntS]
  | cons p xs ih => rw [List.cons_append, cntS, cntS, ih]; omega
theorem cntS_step {xs : List Spn} {k : Nat} {p : Spn} (h : xs[k]? = some p) : cntS (xs.take (k + 1)) = cntS (xs.take k) + (p.2 - p.1 + 1) := by
  have hl := (List.getElem?_eq_some_iff.1 h).1
  have he : xs[k] = p := (List.getElem?_eq_some_iff.1 h).2
  rw [List.take_succ_eq_append_getElem hl, he, cntS_app]; simp [cntS]
theorem cntS_bd {xs : List Spn} (h : ∀ p ∈ xs, spB p.1 p.2 = true) : 0 ≤ cntS xs ∧ cntS xs ≤ xs.length * 6001 := by
  induction xs with
  | nil => simp [cntS]
  | cons p xs ih =>
    have h1 := spB_bd (h p List.mem_cons_self)
    have h2 := ih (fun q hq => h q (List.mem_cons_of_mem _ hq))
    rw [cntS, List.length_cons]; omega
theorem years_mem {xs : List Spn} (h : yearsB xs = true) : ∀ p ∈ xs, spB p.1 p.2 = true := by
  intro p hp
  obtain ⟨k, hk, he⟩ := List.mem_iff_getElem.1 hp
  exact chainB_sp (yearsB_yes h).2 hk (by rw [← he]; exact List.getElem?_eq_getElem hk)
theorem cnt_take_bd {xs : List Spn} (h : yearsB xs = true) (k : Nat) : 0 ≤ cntS (xs.take k) ∧ cntS (xs.take k) ≤ 72012 := by
  have h1 := cntS_bd (xs := xs.take k) (fun p hp => years_mem h p (List.mem_of_mem_take hp))
  have h2 := (yearsB_yes h).1
  have h3 : (xs.take k).length ≤ 12 := by rw [List.length_take]; omega
  omega

def cntV (xs : List Spn) : Value := if yearsB xs then .tuple #[.int .i64 (cntS xs), .int .i64 0] else .tuple #[.int .i64 0, .int .i64 1]
theorem cntV_ok {xs : List Spn} (h : yearsB xs = true) : cntV xs = .tuple #[.int .i64 (cntS xs), .int .i64 0] := by unfold cntV; rw [if_pos h]
theorem cntV_bad {xs : List Spn} (h : yearsB xs = false) : cntV xs = .tuple #[.int .i64 0, .int .i64 1] := by unfold cntV; rw [if_neg (by simp [h])]

end Go.Proofs.YtkbkgbhnfopgnaaDoor
