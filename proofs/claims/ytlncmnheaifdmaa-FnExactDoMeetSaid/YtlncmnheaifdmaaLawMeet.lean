/-
  The law of DoMeet: its call answers true.
-/
import Derived.Test.YtlncmnheaifdmaaDoMeet
import Derived.Deep.RegionHeld3
import Derived.Deep.DeepCutAuto
namespace Go.Proofs.Ytlncmnheaifdmaa
set_option linter.unusedVariables false
open Go.RowKit

theorem doV_form (x y u v : Int) : ∃ (b : Bool) (c : Int), doV x y u v = .tuple #[.bool b, .int .i64 c] := by
  unfold doV; split
  · exact ⟨_, _, rfl⟩
  · exact ⟨_, _, rfl⟩

theorem keep_boxes {w W W' : World} {x y u v : Int} (h : W.cell? ⟨w.heap.size, 0, none⟩ = some (.int .i64 x) ∧ W.cell? ⟨w.heap.size, 1, none⟩ = some (.int .i64 y) ∧ W.cell? ⟨w.heap.size + 1, 0, none⟩ = some (.int .i64 u) ∧ W.cell? ⟨w.heap.size + 1, 1, none⟩ = some (.int .i64 v) ∧ w.heap.size + 1 < W.heap.size ∧ Below w.heap.size w W) (hb : Below W.heap.size W W') :
    W'.cell? ⟨w.heap.size, 0, none⟩ = some (.int .i64 x) ∧ W'.cell? ⟨w.heap.size, 1, none⟩ = some (.int .i64 y) ∧ W'.cell? ⟨w.heap.size + 1, 0, none⟩ = some (.int .i64 u) ∧ W'.cell? ⟨w.heap.size + 1, 1, none⟩ = some (.int .i64 v) ∧ w.heap.size + 1 < W'.heap.size ∧ Below w.heap.size w W' := by
  obtain ⟨h0, h1, h2, h3, hl, hB⟩ := h
  exact ⟨(hb.cell (p := ⟨w.heap.size, 0, none⟩) (by show w.heap.size < _; omega)).trans h0, (hb.cell (p := ⟨w.heap.size, 1, none⟩) (by show w.heap.size < _; omega)).trans h1, (hb.cell (p := ⟨w.heap.size + 1, 0, none⟩) hl).trans h2, (hb.cell (p := ⟨w.heap.size + 1, 1, none⟩) hl).trans h3, Nat.lt_of_lt_of_le hl hb.size, hB.trans (hb.mono hB.size)⟩

set_option maxHeartbeats 1000000 in
set_option maxRecDepth 100000 in
theorem wDoMeet (x y u v : Int) (w : World) :
    Calls Try.prog 8 #[.agg #[.int .i64 x, .int .i64 y], .agg #[.int .i64 u, .int .i64 v]] w fun e w' => e = .returned (.bool true) ∧ Below w.heap.size w w' := by
  obtain ⟨b, c, hV⟩ := doV_form x y u v
  have T1 := Lib.hid (fun W => cToSpan x y W)
  have T2 := Lib.hid (fun W => cToSpan u v W)
  have D1 := Lib.hid (fun W => cDo_spec x y u v W)
  have D2 := Lib.hid (fun W => cDo_impl x y u v W)
  rw [hV] at D1 D2
  clear hV
  obtain ⟨W0, hW0⟩ : ∃ W0 : World, W0 = (w.alloc (.cells #[.int .i64 x, .int .i64 y] 53)).alloc (.cells #[.int .i64 u, .int .i64 v] 53) := ⟨_, rfl⟩
  have B0 : Below w.heap.size w W0 := by rw [hW0]; exact ((Below.refl _ _).alloc (Nat.le_refl _) _).alloc (by simp) _
  have K1 : BoxAt W0 w.heap.size x y := by rw [hW0]; exact (BoxAt.new w x y _).alloc _
  have K2 : BoxAt W0 (w.heap.size + 1) u v := by rw [hW0]; have h := BoxAt.new (w.alloc (.cells #[.int .i64 x, .int .i64 y] 53)) u v 53; simpa using h
  have HW := Lib.hid hW0
  clear hW0
  go_enter Try.func8, Try.ntmps8
  go_wp2_with fail
  rw [← HW.out]
  clear HW
  obtain ⟨l1, a0, a1⟩ := K1
  obtain ⟨l2, b0, b1⟩ := K2
  go_cut [5, 6] (fun p q wx => p = .bool b ∧ q = .int .i64 c ∧ (wx.cell? ⟨w.heap.size, 0, none⟩ = some (.int .i64 x) ∧ wx.cell? ⟨w.heap.size, 1, none⟩ = some (.int .i64 y) ∧ wx.cell? ⟨w.heap.size + 1, 0, none⟩ = some (.int .i64 u) ∧ wx.cell? ⟨w.heap.size + 1, 1, none⟩ = some (.int .i64 v) ∧ w.heap.size + 1 < wx.heap.size ∧ Below w.heap.size w wx))
  case first =>
    go_region_held3 (fun W => W.cell? ⟨w.heap.size, 0, none⟩ = some (.int .i64 x) ∧ W.cell? ⟨w.heap.size, 1, none⟩ = some (.int .i64 y) ∧ W.cell? ⟨w.heap.size + 1, 0, none⟩ = some (.int .i64 u) ∧ W.cell? ⟨w.heap.size + 1, 1, none⟩ = some (.int .i64 v) ∧ w.heap.size + 1 < W.heap.size ∧ Below w.heap.size w W) (first | (exact ⟨a0, a1, b0, b1, l2, B0.drew⟩) | (exact keep_boxes (by assumption) hb) | go_keep) ((first | (go_at_call_of 44 (Value.agg #[Value.int IntKind.i64 x, Value.int IntKind.i64 y]); refine (T1.out _).mono ?_; rintro e w1 ⟨rfl, hb⟩) | (go_at_call_of 44 (Value.agg #[Value.int IntKind.i64 u, Value.int IntKind.i64 v]); refine (T2.out _).mono ?_; rintro e w2 ⟨rfl, hb⟩) | (go_at_call 31; refine (D1.out _).mono ?_; rintro e w3 ⟨rfl, hb⟩)))
    go_wp2_with fail
    go_meet
    exact ⟨rfl, rfl, by assumption⟩
  case rest =>
    obtain ⟨rfl, rfl, hK⟩ := hcut
    obtain ⟨c0, c1, d0, d1, l3, B1⟩ := id hK
    go_upto_region 2 with fail
    go_cut [7, 8] (fun p q wx => p = .bool b ∧ q = .int .i64 c ∧ (wx.cell? ⟨w.heap.size, 0, none⟩ = some (.int .i64 x) ∧ wx.cell? ⟨w.heap.size, 1, none⟩ = some (.int .i64 y) ∧ wx.cell? ⟨w.heap.size + 1, 0, none⟩ = some (.int .i64 u) ∧ wx.cell? ⟨w.heap.size + 1, 1, none⟩ = some (.int .i64 v) ∧ w.heap.size + 1 < wx.heap.size ∧ Below w.heap.size w wx))
    case first =>
      go_region_held3 (fun W => W.cell? ⟨w.heap.size, 0, none⟩ = some (.int .i64 x) ∧ W.cell? ⟨w.heap.size, 1, none⟩ = some (.int .i64 y) ∧ W.cell? ⟨w.heap.size + 1, 0, none⟩ = some (.int .i64 u) ∧ W.cell? ⟨w.heap.size + 1, 1, none⟩ = some (.int .i64 v) ∧ w.heap.size + 1 < W.heap.size ∧ Below w.heap.size w W) (first | (exact ⟨hK.1, hK.2.1, hK.2.2.1, hK.2.2.2.1, hK.2.2.2.2.1, hK.2.2.2.2.2.drew⟩) | (exact keep_boxes (by assumption) hb) | go_keep) ((first | (go_at_call_of 44 (Value.agg #[Value.int IntKind.i64 x, Value.int IntKind.i64 y]); refine (T1.out _).mono ?_; rintro e w1 ⟨rfl, hb⟩) | (go_at_call_of 44 (Value.agg #[Value.int IntKind.i64 u, Value.int IntKind.i64 v]); refine (T2.out _).mono ?_; rintro e w2 ⟨rfl, hb⟩) | (go_at_call 30; refine (D2.out _).mono ?_; rintro e w3 ⟨rfl, hb⟩)))
      go_wp2_with fail
      go_meet
      exact ⟨rfl, rfl, by assumption⟩
    case rest =>
      obtain ⟨rfl, rfl, hK2⟩ := hcut
      have B2 := hK2.2.2.2.2.2
      clear hK hK2
      go_wp2_with fail
      go_ret
      exact ⟨rfl, B2⟩
end Go.Proofs.Ytlncmnheaifdmaa
