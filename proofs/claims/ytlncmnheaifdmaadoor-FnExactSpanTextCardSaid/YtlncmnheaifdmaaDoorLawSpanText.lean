/-
  The law of SpanText: its call answers true.
-/
import Derived.Test.YtlncmnheaifdmaaDoorSpanText
import Derived.Test.YtlncmnheaifdmaaDoorTab
import Derived.Test.YtlncmnheaifdmaaDoorSpanArg1
namespace Go.Proofs.YtlncmnheaifdmaaDoor
set_option linter.unusedVariables false
open Go.RowKit

theorem spTV_form (x y : Int) : ∃ b c, spTV x y = .tuple #[.string b, .int .i64 c] := by
  unfold spTV; split
  · exact ⟨_, _, rfl⟩
  · exact ⟨_, _, rfl⟩

set_option maxHeartbeats 1000000 in
set_option maxRecDepth 100000 in
theorem wSpanText (x y : Int) (w : World) (htab : Lib.TabIs Tryd.prog w "internal/strconv.uint64pow10" .u64 Lib.pow10Tab) :
    Calls Tryd.prog 7 #[.agg #[.int .i64 x, .int .i64 y]] w fun e w' => e = .returned (.bool true) ∧ Below w.heap.size w w' := by
  have hgl : 0 < w.heap.size := World.block_lt_of_cell? w _ (htab.cell pow_named 0 (by rw [Lib.pow10Tab_length]; omega))
  obtain ⟨tb, tc, hv⟩ := spTV_form x y
  have CS := Lib.hid (cSpanText_spec x y)
  have CI := Lib.hid (fun W (hW : Below w.heap.size w W) => cSpanText_impl x y W (Nat.lt_of_lt_of_le hgl hW.size) (tab_below hW pow_named hgl htab))
  rw [hv] at CS CI
  clear hv htab
  have hb0 : Below w.heap.size w (w.alloc (.cells #[.int .i64 x, .int .i64 y] 51)) := (Below.refl _ _).alloc (Nat.le_refl _) _
  have n0 : (w.alloc (.cells #[.int .i64 x, .int .i64 y] 51)).cell? ⟨w.heap.size, 0, none⟩ = some (.int .i64 x) := World.cell?_alloc_at _ _ _ _ rfl
  have n1 : (w.alloc (.cells #[.int .i64 x, .int .i64 y] 51)).cell? ⟨w.heap.size, 1, none⟩ = some (.int .i64 y) := World.cell?_alloc_at _ _ _ _ rfl
  have q0 : w.heap.size < (w.alloc (.cells #[.int .i64 x, .int .i64 y] 51)).heap.size := by simp
  go_enter Tryd.func7, Tryd.ntmps7
  go_wp2_with fail
  refine (cToSpan x y _).mono ?_
  rintro e w1 ⟨rfl, hb1⟩
  have h1 := hb0.trans (hb1.mono hb0.size)
  have q1 := Nat.lt_of_lt_of_le q0 hb1.size
  go_wp2_with fail
  refine (CS.out _).mono ?_
  rintro e w2 ⟨rfl, hb2⟩
  have h2 := h1.trans (hb2.mono h1.size)
  have c0 : w2.cell? ⟨w.heap.size, 0, none⟩ = some (.int .i64 x) := (hb2.cell (p := ⟨w.heap.size, 0, none⟩) q1).trans ((hb1.cell (p := ⟨w.heap.size, 0, none⟩) q0).trans n0)
  have c1 : w2.cell? ⟨w.heap.size, 1, none⟩ = some (.int .i64 y) := (hb2.cell (p := ⟨w.heap.size, 1, none⟩) q1).trans ((hb1.cell (p := ⟨w.heap.size, 1, none⟩) q0).trans n1)
  go_wp2_with fail
  refine (cToSpan x y _).mono ?_
  rintro e w3 ⟨rfl, hb3⟩
  have h3 := h2.trans (hb3.mono h2.size)
  go_wp2_with fail
  refine (CI.out _ h3).mono ?_
  rintro e w4 ⟨rfl, hb4⟩
  have h4 := h3.trans (hb4.mono h3.size)
  go_wp2_with fail
  go_ret
  exact ⟨rfl, h4⟩
end Go.Proofs.YtlncmnheaifdmaaDoor
