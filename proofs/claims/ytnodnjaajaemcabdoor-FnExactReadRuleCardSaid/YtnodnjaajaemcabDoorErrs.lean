/-
  What a row's list of laid variables gives: the table of powers and the two errors of strconv.
-/
import Derived.Test.YtnodnjaajaemcabDoorRead
import Derived.Test.YtnodnjaajaemcabDoorTab
import Derived.Stop.LaidErr
import Derived.Test.YtnodnjaajaemcabDoorChecked
import Derived.ProofKit
namespace Go.Proofs.YtnodnjaajaemcabDoor
set_option linter.unusedVariables false
open Go.RowKit Go.ChangeShapes

theorem laidMet_mem {P : Program} {x : String × DataW Unit} : ∀ (l : List (String × DataW Unit)) {w : World}, laidMet P l w → x ∈ l → ∃ r, laidMet P (x :: r) w
  | [], _, _, hm => by simp at hm
  | y :: r, w, h, hm => by
    rw [List.mem_cons] at hm
    rcases hm with rfl | hm
    · exact ⟨r, h⟩
    · exact laidMet_mem r h.tail hm
theorem err_star : "*" ++ "errors.errorString" = "*errors.errorString" := by decide
theorem err_row (u : TypeId) (h : Tryd.prog.typeName? 3 u = some "*errors.errorString") : u = 129 :=
  typeName_ptr_named (nm := "errors.errorString") (by rw [err_star]; kernel_rfl) (by kernel_rfl) (by decide) u (by rw [err_star]; exact h)
theorem laidOf {W : World} {laid : List (String × DataW Unit)} {t1 t2 : List UInt8} (h : laidMet Tryd.prog laid W) (hm : ("internal/strconv.uint64pow10", Lib.tabData .u64 Lib.pow10Tab) ∈ laid)
    (h1 : ("strconv.ErrSyntax", .iface "*errors.errorString" (.ptr (.agg [.lit (.string t1)]))) ∈ laid) (h2 : ("strconv.ErrRange", .iface "*errors.errorString" (.ptr (.agg [.lit (.string t2)]))) ∈ laid) : Laid W := by
  obtain ⟨r1, k1⟩ := laidMet_mem laid h h1
  obtain ⟨r2, k2⟩ := laidMet_mem laid h h2
  obtain ⟨a1, s1, v1, _⟩ := laid_sentinel k1 syn_named (by kernel_rfl) Tryd.underlying80 err_row Tryd.underlying129 Tryd.underlying131 rfl rfl Tryd.underlying9 (by kernel_rfl) (by kernel_rfl)
  obtain ⟨a2, s2, v2, _⟩ := laid_sentinel k2 rng_named (by kernel_rfl) Tryd.underlying80 err_row Tryd.underlying129 Tryd.underlying131 rfl rfl Tryd.underlying9 (by kernel_rfl) (by kernel_rfl)
  exact ⟨powTab h hm, ⟨_, _, v1⟩, ⟨_, _, v2⟩⟩
end Go.Proofs.YtnodnjaajaemcabDoor
