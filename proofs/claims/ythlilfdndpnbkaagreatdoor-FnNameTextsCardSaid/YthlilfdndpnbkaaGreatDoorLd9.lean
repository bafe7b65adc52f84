/-
  What a row's list of laid variables gives, where it holds a handle too: the table of powers and the two errors of strconv.
-/
import Derived.Test.YthlilfdndpnbkaaGreatDoorRead
import Derived.Test.YthlilfdndpnbkaaGreatDoorMg15
import Derived.Test.YthlilfdndpnbkaaGreatDoorErr9
namespace Go.Proofs.YthlilfdndpnbkaaGreatDoor
set_option linter.unusedVariables false
open Go.RowKit Go.ChangeShapes

theorem laidOf9 {W : World} {laid : List (String × DataW Unit)} {t1 t2 : List UInt8} (h : laidMetH Tryz.prog laid W) (hm : ("internal/strconv.uint64pow10", Lib.tabData .u64 Lib.pow10Tab) ∈ laid)
    (h1 : ("strconv.ErrSyntax", .iface "*errors.errorString" (.ptr (.agg [.lit (.string t1)]))) ∈ laid) (h2 : ("strconv.ErrRange", .iface "*errors.errorString" (.ptr (.agg [.lit (.string t2)]))) ∈ laid) : Laid W := by
  obtain ⟨r1, k1⟩ := laid_plain h h1 (by kernel_rfl)
  obtain ⟨r2, k2⟩ := laid_plain h h2 (by kernel_rfl)
  obtain ⟨a1, s1, v1, _⟩ := laid_sentinel k1 syn_named (by kernel_rfl) Tryz.underlying82 err_row Tryz.underlying257 Tryz.underlying259 rfl rfl Tryz.underlying9 (by kernel_rfl) (by kernel_rfl)
  obtain ⟨a2, s2, v2, _⟩ := laid_sentinel k2 rng_named (by kernel_rfl) Tryz.underlying82 err_row Tryz.underlying257 Tryz.underlying259 rfl rfl Tryz.underlying9 (by kernel_rfl) (by kernel_rfl)
  exact ⟨powTab (laidMetH_iff.1 h).1 (List.mem_filter.2 ⟨hm, by kernel_rfl⟩), ⟨_, _, v1⟩, ⟨_, _, v2⟩⟩
end Go.Proofs.YthlilfdndpnbkaaGreatDoor
