/-
  The contracts of codeOf.
-/
import Derived.Test.YthlajgkelggnkaaGreatDoorChk9
import Derived.Test.YthlajgkelggnkaaGreatDoorAs9
namespace Go.Proofs.YthlajgkelggnkaaGreatDoor
set_option linter.unusedVariables false
open Go.RowKit

theorem cCodeNil (w : World) : Calls Tryz.prog 24 #[.nilIface] w fun e w' => e = .returned (.int .i64 0) ∧ Below w.heap.size w w' := by
  have CA := Lib.hid (fun t W => as_nil t W)
  have hb0 := (Below.refl w.heap.size w).alloc (Nat.le_refl _) (.cells #[.int .i64 0, .nilIface] 78)
  go_enter Tryz.func24, Tryz.ntmps24
  go_wp2_with fail
  refine (CA.out _ _).mono ?_
  rintro e w1 ⟨rfl, rfl⟩
  go_wp2_with fail
  go_ret
  exact ⟨rfl, hb0⟩
set_option maxHeartbeats 1000000 in
theorem cCodeRef (c : Int) (u : Value) (w : World) (hu : u.oneCell' = true) (het : Et w) :
    Calls Tryz.prog 24 #[.iface 78 (.agg #[.int .i64 c, u])] w fun e w' => e = .returned (.int .i64 c) ∧ Below w.heap.size w w' := by
  have hb0 := (Below.refl w.heap.size w).alloc (Nat.le_refl _) (.cells #[.int .i64 0, .nilIface] 78)
  have CA := Lib.hid (as_hit (.int .i64 c) u w.heap.size (.int .i64 0) .nilIface (w.alloc (.cells #[.int .i64 0, .nilIface] 78)) rfl hu (het.below hb0) (World.cell?_alloc_at _ _ _ _ rfl) (World.cell?_alloc_at _ _ _ _ rfl) (fun k => World.frozen?_alloc_new _ _ _ _))
  have HB := Lib.hid hb0
  clear hb0 het
  go_enter Tryz.func24, Tryz.ntmps24
  go_wp2_with fail
  refine CA.out.mono ?_
  rintro e w1 ⟨rfl, hw⟩
  have hc : w1.cell? ⟨w.heap.size, 0, none⟩ = some (.int .i64 c) := by
    rw [hw, World.cell?_setCell_other _ _ _ _ (by simp)]
    refine World.cell?_setCell_same' _ _ _ ?_
    rw [World.cell?_alloc_lt _ _ ⟨w.heap.size, 0, none⟩ (by simp; omega), World.cell?_alloc_lt _ _ ⟨w.heap.size, 0, none⟩ (by simp; omega), World.cell?_alloc_lt _ _ ⟨w.heap.size, 0, none⟩ (by simp; omega), World.cell?_alloc_lt _ _ ⟨w.heap.size, 0, none⟩ (by simp), World.cell?_alloc_at _ _ _ _ rfl]
    rfl
  have hbt : Below w.heap.size w w1 := by
    rw [hw]
    exact (((((HB.out.alloc (by simp) _).alloc (by simp; omega) _).alloc (by simp; omega) _).alloc (by simp; omega) _).setCell (p := ⟨w.heap.size, 0, none⟩) (Nat.le_refl _) _).setCell (p := ⟨w.heap.size, 1, none⟩) (Nat.le_refl _) _
  clear hw
  go_wp2_with fail
  go_ret
  exact ⟨rfl, hbt⟩

/-- What a question answers: no error, or a refusal with this code. -/
def RefV (c : Int) (v : Value) : Prop := (c = 0 ∧ v = .nilIface) ∨ (c ≠ 0 ∧ ∃ u, v = .iface 78 (.agg #[.int .i64 c, .iface 164 u]))
def RefOut (c : Int) (w : World) (e : Ending) (w' : World) : Prop := (∃ v, e = .returned v ∧ RefV c v) ∧ Below w.heap.size w w'

end Go.Proofs.YthlajgkelggnkaaGreatDoor
