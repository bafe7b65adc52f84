/-
  The contract of spec.ReadList.
-/
import Derived.Test.YtnfdbpfegmodcaaDoorReadListI
import Derived.Test.YtnfdbpfegmodcaaDoorNumbers
import Derived.Test.YtnfdbpfegmodcaaDoorCommaG
namespace Go.Proofs.YtnfdbpfegmodcaaDoor
set_option linter.unusedVariables false
open Go.RowKit

theorem sNum_all {ws : List ByteArray} (h : sAll ws = true) : nums (ws.map sN) = ws := by
  unfold nums
  rw [List.map_map]
  refine (List.map_congr_left (g := id) ?_).trans (List.map_id _)
  intro x hx
  unfold sAll at h
  rw [List.all_eq_true] at h
  exact sB_num (h x hx)
theorem sAll_nums {xs : List Int} (h : okAll xs = true) : sAll (nums xs) = true ∧ (nums xs).map sN = xs := by
  constructor
  · unfold sAll nums
    rw [List.all_eq_true]
    intro x hx
    rw [List.mem_map] at hx
    obtain ⟨v, hv, rfl⟩ := hx
    have hb := okAll_mem xs h v hv
    exact (sB_of v (by omega) (by omega)).1
  · unfold nums
    rw [List.map_map]
    refine (List.map_congr_left (g := id) ?_).trans (List.map_id _)
    intro v hv
    have hb := okAll_mem xs h v hv
    exact (sB_of v (by omega) (by omega)).2

end Go.Proofs.YtnfdbpfegmodcaaDoor
