/-
  The contract of spec.LettersInCommon: the last entry of the table of letters in common.
-/
import Derived.Test.YtmbahbnadkmnkaaSplit
import Derived.Test.YtmbahbnadkmnkaaAreWords
import Derived.Test.YtmbahbnadkmnkaaDpPlain
import Derived.OwnWalk
import Derived.Laws.OwnMore
import Derived.Deep.AppendLies
namespace Go.Proofs.Ytmbahbnadkmnkaa
set_option linter.unusedVariables false
open Go.RowKit

theorem info_int64 : (Try.prog.info? 2).map (fun i => (i.zero, i.size, i.bytes)) = some (some (.int .i64 0), 1, 8) := by kernel_rfl

theorem made_zero (n : Nat) : (madeCells #[Value.int .i64 0] n).toList = rowV (fun _ => 0) n := by
  apply List.ext_getElem?
  intro j
  by_cases h : j < n
  · simp [madeCells, rowV, h, Nat.mod_one]
  · rw [List.getElem?_eq_none (by simp [madeCells]; omega), List.getElem?_eq_none (by simp [rowV]; omega)]

theorem own_dr {w : World} {base n : Nat} {e : TypeId} {size : Nat} {v : Value} {xs : List Value} (h : w.ownsRow base e size v n xs) (k : Nat) : (w.drewN k).ownsRow base e size v n xs := h
theorem below_dr {B : Nat} {a w : World} (h : Below B a w) (n : Nat) : Below B a (w.drewN n) := ⟨h.os, h.tape, h.output, h.size, h.block⟩
theorem new_cell (w : World) (n : Nat) (v : Value) (t : TypeId) : ((w.drewN n).alloc (.cells #[v] t)).cell? ⟨w.heap.size, 0, none⟩ = some v := by
  show ((w.drewN n).alloc (.cells #[v] t)).cell? ⟨(w.drewN n).heap.size, 0, none⟩ = some v
  rw [World.cell?_alloc_at _ _ _ _ rfl]; rfl
theorem one_cell (w : World) (B : Nat) (u : Value) (h : w.cell? ⟨B, 0, none⟩ = some u) : ∀ (j : Nat) x, [u][j]? = some x → w.cell? ((⟨B, 0, none⟩ : Addr).add j) = some x := by
  intro j x hx
  match j, hx with
  | 0, hx => obtain rfl : u = x := by simpa using hx
             simpa [Addr.add] using h

end Go.Proofs.Ytmbahbnadkmnkaa
