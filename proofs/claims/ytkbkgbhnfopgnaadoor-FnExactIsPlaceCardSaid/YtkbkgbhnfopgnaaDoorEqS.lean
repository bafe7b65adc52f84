/-
  The contract of the laws' helper eqStringS at two slices with the same texts.
-/
import Derived.Test.YtkbkgbhnfopgnaaDoorAreWords
import Derived.Handy
namespace Go.Proofs.YtkbkgbhnfopgnaaDoor
set_option linter.unusedVariables false
open Go.RowKit

set_option maxHeartbeats 1000000 in
set_option maxRecDepth 100000 in
/-- Two slices with the same texts are equal. -/
theorem cEqS (g cap g' cap' n : Nat) (xs : List ByteArray) (w : World) (hn : n = xs.length) (hbig : n ≤ 1099511627776)
    (h1 : ∀ j x, xs[j]? = some x → w.cell? ⟨g, j, none⟩ = some (.string x)) (h2 : ∀ j x, xs[j]? = some x → w.cell? ⟨g', j, none⟩ = some (.string x)) :
    Calls Tryd.prog 23 #[.slice (some ⟨g, 0, none⟩) n cap, .slice (some ⟨g', 0, none⟩) n cap'] w fun e w' => e = .returned (.bool true) ∧ ∃ m, w' = w.drewN m := by
  have HN := Lib.hid hn
  have H1 := Lib.hid h1
  have H2 := Lib.hid h2
  clear hn h1 h2
  go_enter Tryd.func23, Tryd.ntmps23
  go_wp2
  go_loopw [5] (fun i wr => ∃ j m : Nat, j ≤ n ∧ i = .int .i64 j ∧ wr = w.drewN m) (fun i _ => n - (intOf i).toNat)
  case atStart => exact ⟨0, 0, Nat.zero_le _, rfl, rfl⟩
  case round =>
    obtain ⟨j, m, hj, rfl, rfl⟩ := hrel
    by_cases hlt : j < n
    · obtain ⟨x, hx⟩ : ∃ x, xs[j]? = some x := ⟨xs[j]'(by have := HN.out; omega), List.getElem?_eq_getElem _⟩
      have c1 : w.cell? ⟨g, j, none⟩ = some (.string x) := H1.out j x hx
      have c2 : w.cell? ⟨g', j, none⟩ = some (.string x) := H2.out j x hx
      clear hx
      have e1 : (0 : Int) ≤ (j : Int) := Int.natCast_nonneg _
      have e2 : (j : Int) < (n : Int) := by omega
      go_wp2
      go_quiet (fail)
      go_wp2
      go_roundw
      case rel => exact ⟨j + 1, _, by omega, by go_num, rfl⟩
      case measure => simp [intOf]; omega
    · go_wp2
      go_ret
      exact ⟨rfl, m, rfl⟩
/-- Two slices of length 0 are equal. -/
theorem cEqS_none (A A' : Option Addr) (cap cap' : Nat) (w : World) :
    Calls Tryd.prog 23 #[.slice A 0 cap, .slice A' 0 cap'] w fun e w' => e = .returned (.bool true) ∧ w = w' := by
  go_enter Tryd.func23, Tryd.ntmps23
  go_wp2
  refine wp_loop_rounds 1 ?_
  rw [rounds_succ]
  go_wp2
  go_ret
  exact ⟨rfl, rfl⟩
end Go.Proofs.YtkbkgbhnfopgnaaDoor
