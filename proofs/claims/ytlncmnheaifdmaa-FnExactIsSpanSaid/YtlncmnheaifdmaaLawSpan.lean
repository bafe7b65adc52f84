/-
  The law of IsSpan: its call answers true.
-/
import Derived.Test.YtlncmnheaifdmaaSpan
namespace Go.Proofs.Ytlncmnheaifdmaa
set_option linter.unusedVariables false
open Go.RowKit

theorem wIsSpan (x y : Int) (w : World) :
    Calls Try.prog 6 #[.agg #[.int .i64 x, .int .i64 y]] w fun e w' => e = .returned (.bool true) ∧ Below w.heap.size w w' := by
  go_enter Try.func6, Try.ntmps6
  go_wp2_with fail
  refine (cToSpan x y _).mono ?_
  rintro e w1 ⟨rfl, hb1⟩
  go_wp2_with fail
  refine (cIsSpan_spec x y _).mono ?_
  rintro e w2 ⟨rfl, hb2⟩
  have hb12 := ((Below.refl w.heap.size w).alloc (Nat.le_refl _) (.cells #[.int .i64 x, .int .i64 y] 53)).trans (hb1.mono (by simp)) 
  have hb13 := hb12.trans (hb2.mono hb12.size)
  have c0 : w2.cell? ⟨w.heap.size, 0, none⟩ = some (.int .i64 x) := by
    rw [hb2.cell (Nat.lt_of_lt_of_le (by simp) hb1.size), hb1.cell (by simp), World.cell?_alloc_at _ _ _ _ rfl]; rfl
  have c1 : w2.cell? ⟨w.heap.size, 1, none⟩ = some (.int .i64 y) := by
    rw [hb2.cell (Nat.lt_of_lt_of_le (by simp) hb1.size), hb1.cell (by simp), World.cell?_alloc_at _ _ _ _ rfl]; rfl
  go_wp2_with fail
  refine (cToSpan x y _).mono ?_
  rintro e w3 ⟨rfl, hb3⟩
  go_wp2_with fail
  refine (cIsSpan_impl x y _).mono ?_
  rintro e w4 ⟨rfl, hb4⟩
  have hb14 := hb13.trans (hb3.mono hb13.size)
  have hb15 := hb14.trans (hb4.mono hb14.size)
  go_wp2_with fail
  go_ret
  exact ⟨rfl, hb15⟩
end Go.Proofs.Ytlncmnheaifdmaa
