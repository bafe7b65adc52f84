/-
  The contracts of laws.roll and of the dice's below.
-/
import Derived.Test.YthlajgkelggnkaaDraw
namespace Go.Proofs.Ythlajgkelggnkaa
set_option linter.unusedVariables false
open Go.RowKit

def diceCells (A : Option Addr) (len cap i : Nat) (h : Int) : Array Value := #[.slice A len cap, .int .i64 i, .int .u64 h]
theorem dice_set2 (A : Option Addr) (len cap i : Nat) (h h' : Int) : (diceCells A len cap i h).setIfInBounds 2 (.int .u64 h') = diceCells A len cap i h' := rfl
theorem dice_set1 (A : Option Addr) (len cap i i' : Nat) (h : Int) (u : Int) (e : u = i') : (diceCells A len cap i h).setIfInBounds 1 (.int .i64 u) = diceCells A len cap i' h := by subst e; rfl

set_option maxHeartbeats 1000000 in
set_option maxRecDepth 100000 in
theorem cRoll (A : Option Addr) (len cap : Nat) (w : World) (hlen : len ≤ 1048576) (h : CodeIn w A len) :
    Calls Try.prog 19 #[.slice A len cap, .int .u64 201] w fun e w' => e = .returned (.pointer (some ⟨w.heap.size, 0, none⟩)) ∧ (∃ x, TabAt w' w.heap.size 65 (diceCells A len cap 0 x)) ∧ Below w.heap.size w w' := by
  have H := Lib.hid h
  clear h
  go_enter Try.func19, Try.ntmps19
  go_wp2
  have T0 := Lib.hid (show TabAt (w.alloc (.cells #[.slice A len cap, .int .i64 0, .int .u64 (1591719 + (len : Int))] 65)) w.heap.size 65 (diceCells A len cap 0 (1591719 + (len : Int))) from TabAt.new w 65 _)
  go_loopw [6] (fun i wr => ∃ (k : Nat) (x : Int), k ≤ len ∧ i = .int .i64 k ∧ Hid (TabAt wr w.heap.size 65 (diceCells A len cap 0 x)) ∧ Below w.heap.size w wr) (fun i _ => len - (intOf i).toNat)
  case atStart => exact ⟨0, _, Nat.zero_le _, rfl, T0, (Below.refl _ _).alloc (Nat.le_refl _) _⟩
  case round =>
    clear T0
    obtain ⟨k, x, hk, rfl, HT, hbw⟩ := hrel
    by_cases hlt : k < len
    · obtain ⟨b, o, rfl, hbl, hcc⟩ := H.out (by omega)
      obtain ⟨z, hz0, hz1, hcz⟩ := hcc k hlt
      have dz := (hbw.cell (by exact hbl)).trans hcz
      have d2 : wr.cell? ⟨w.heap.size, 2, none⟩ = some (.int .u64 x) := (HT.out.cell 2).trans rfl
      have g2 := HT.out.frozen 2
      clear hcc hcz
      go_wp2
      go_region
      all_goals
        go_wp2
        go_roundw
        case rel => exact ⟨k + 1, _, by omega, by go_num, Lib.hid ((dice_set2 _ _ _ _ _ _) ▸ (HT.out.dr 1).set 2 (.int .u64 _)), hbw.drew.setCell (p := ⟨w.heap.size, 2, none⟩) (Nat.le_refl _) (.int .u64 _)⟩
        case measure => simp [intOf]; omega
    · go_wp2
      go_ret
      exact ⟨rfl, ⟨_, HT.out⟩, hbw⟩

theorem grown_cell (w : World) (D i : Nat) (v : Value) : w.grownBy (w.setCell ⟨D, i, none⟩ v) (some D) :=
  ⟨rfl, rfl, rfl, by simp, fun k hk hne => Below.heap_setCell _ _ _ k (by show k ≠ D; intro e; exact hne (by rw [e]))⟩
theorem tmod500 (X : Int) : -500 < X.tmod 500 ∧ X.tmod 500 < 500 := by
  have h := Int.natAbs_tmod X 500
  have h2 : X.natAbs % 500 < 500 := Nat.mod_lt _ (by decide)
  have h3 : (500 : Int).natAbs = 500 := rfl
  rw [h3] at h
  omega
def DicePost (n : Int) (A : Option Addr) (len cap i D : Nat) (w : World) (e : Ending) (w' : World) : Prop := ∃ (r : Int) (j : Nat) (y : Int), -n < r ∧ r < n ∧ e = .returned (.int .i64 r) ∧ j ≤ len ∧ TabAt w' D 65 (diceCells A len cap j y) ∧ w.grownBy w' (some D)
set_option maxHeartbeats 1000000 in
set_option maxRecDepth 100000 in
theorem cBelow (A : Option Addr) (len cap i D : Nat) (x : Int) (w : World) (hlen : len ≤ 1048576) (hi : i ≤ len) (hC : CodeAt w D A len) (h : TabAt w D 65 (diceCells A len cap i x)) :
    Calls Try.prog 20 #[.pointer (some ⟨D, 0, none⟩), .int .i64 500] w (DicePost 500 A len cap i D w) := by
  have H := Lib.hid hC
  have HT := Lib.hid h
  have d0 : w.cell? ⟨D, 0, none⟩ = some (.slice A len cap) := (h.cell 0).trans rfl
  have d1 : w.cell? ⟨D, 1, none⟩ = some (.int .i64 i) := (h.cell 1).trans rfl
  have d2 : w.cell? ⟨D, 2, none⟩ = some (.int .u64 x) := (h.cell 2).trans rfl
  have f1 := h.frozen 1
  have f2 := h.frozen 2
  clear hC h
  go_enter Try.func20, Try.ntmps20
  go_wp2_with fail
  obtain ⟨X, hX⟩ : ∃ X : Int, X = wrap64 (bits BinOp.and IntKind.u64 (IntKind.u64.wrap (IntKind.u64.wrap (x * 6364136223846793005) + 1442695040888963407) / 8589934592) 16777215) := ⟨_, rfl⟩
  rw [← hX]
  obtain ⟨Y, hY⟩ : ∃ Y : Int, Y = IntKind.u64.wrap (IntKind.u64.wrap (x * 6364136223846793005) + 1442695040888963407) := ⟨_, rfl⟩
  rw [← hY]
  obtain ⟨W, hW⟩ : ∃ W : World, W = w.setCell ⟨D, 2, none⟩ (.int .u64 Y) := ⟨_, rfl⟩
  rw [← hW]
  have T1 : TabAt W D 65 (diceCells A len cap i Y) := by rw [hW]; exact (dice_set2 A len cap i x Y) ▸ HT.out.set 2 (.int .u64 Y)
  have G1 : w.grownBy W (some D) := by rw [hW]; exact grown_cell w D 2 _
  clear hX hY hW d0 d1 d2 f1 f2 HT
  have d0 : W.cell? ⟨D, 0, none⟩ = some (.slice A len cap) := (T1.cell 0).trans rfl
  have d1 : W.cell? ⟨D, 1, none⟩ = some (.int .i64 i) := (T1.cell 1).trans rfl
  have f1 := T1.frozen 1
  have HT1 := Lib.hid T1
  have HG1 := Lib.hid G1
  clear T1 G1
  by_cases hlt : i < len
  · obtain ⟨b, o, rfl, hne, hbl, hcc⟩ := H.out (by omega)
    obtain ⟨z, hz0, hz1, hcz0⟩ := hcc i hlt
    have hcz : W.cell? ⟨b, o + i, none⟩ = some (.int .u8 z) := HG1.out.cell hcz0 (by simp; omega)
    have z1 : decide ((i : Int) < (len : Int)) = true := decide_eq_true (by omega)
    clear hcc hcz0
    go_quiet (fail)
    go_wp2_with fail
    go_quiet (fail)
    go_wp2_with fail
    go_ret
    exact ⟨_, i + 1, Y, (tmod500 _).1, (tmod500 _).2, rfl, by omega, (dice_set1 _ len cap i (i + 1) Y _ (by push_cast; rfl)) ▸ (HT1.out.dr _).set 1 _, (grown_dr HG1.out _).trans (grown_cell _ _ _ _)⟩
  · have z1 : decide ((i : Int) < (len : Int)) = false := decide_eq_false (by omega)
    go_quiet (fail)
    go_wp2_with fail
    go_ret
    exact ⟨_, i, Y, (tmod500 _).1, (tmod500 _).2, rfl, hi, HT1.out, grown_dr HG1.out _⟩
end Go.Proofs.Ythlajgkelggnkaa
