/-
  The law of MeetOf: its call answers true.
-/
import Derived.Test.YtlncmnheaifdmaaMeetOf
import Derived.Test.YtlncmnheaifdmaaLawMeet
namespace Go.Proofs.Ytlncmnheaifdmaa
set_option linter.unusedVariables false
open Go.RowKit

theorem meetV_form (x y u v : Int) : ∃ (r s c : Int), meetV x y u v = .tuple #[.agg #[.int .i64 r, .int .i64 s], .int .i64 c] := by
  unfold meetV; split
  · split
    · exact ⟨_, _, _, rfl⟩
    · exact ⟨_, _, _, rfl⟩
  · exact ⟨_, _, _, rfl⟩

theorem cEqSpan (x y : Int) (w : World) :
    Calls Try.prog 49 #[.agg #[.int .i64 x, .int .i64 y], .agg #[.int .i64 x, .int .i64 y]] w fun e w' => e = .returned (.bool true) ∧ Below w.heap.size w w' := by
  have hx : (x != x) = false := by simp
  have hy : (y != y) = false := by simp
  go_enter Try.func49, Try.ntmps49
  go_wp2
  go_ret
  exact ⟨rfl, ((Below.refl _ _).alloc (Nat.le_refl _) _).alloc (by simp) _⟩

/-- Two boxes at b and b + 1 hold two spans; below its size the world is as the anchor. -/
def TwoBox (b : Nat) (A W : World) (x y u v : Int) : Prop := W.cell? ⟨b, 0, none⟩ = some (.int .i64 x) ∧ W.cell? ⟨b, 1, none⟩ = some (.int .i64 y) ∧ W.cell? ⟨b + 1, 0, none⟩ = some (.int .i64 u) ∧ W.cell? ⟨b + 1, 1, none⟩ = some (.int .i64 v) ∧ b + 1 < W.heap.size ∧ Below A.heap.size A W
theorem TwoBox.keep {b : Nat} {A W W' : World} {x y u v : Int} (h : TwoBox b A W x y u v) (hb : Below W.heap.size W W') : TwoBox b A W' x y u v := by
  obtain ⟨h0, h1, h2, h3, hl, hB⟩ := h
  exact ⟨(hb.cell (p := ⟨b, 0, none⟩) (by show b < _; omega)).trans h0, (hb.cell (p := ⟨b, 1, none⟩) (by show b < _; omega)).trans h1, (hb.cell (p := ⟨b + 1, 0, none⟩) hl).trans h2, (hb.cell (p := ⟨b + 1, 1, none⟩) hl).trans h3, Nat.lt_of_lt_of_le hl hb.size, hB.trans (hb.mono hB.size)⟩
theorem BoxAt.set {w : World} {B : Nat} {x y : Int} (h : BoxAt w B x y) (r s : Int) : BoxAt ((w.setCell ⟨B, 0, none⟩ (.int .i64 r)).setCell ⟨B, 1, none⟩ (.int .i64 s)) B r s := by
  obtain ⟨hl, h0, h1⟩ := h
  have k1 : (w.setCell ⟨B, 0, none⟩ (.int .i64 r)).cell? ⟨B, 1, none⟩ = some (.int .i64 y) := by
    rw [World.cell?_setCell_other _ _ _ _ (by intro e; injection e; omega)]; exact h1
  refine ⟨by simpa using hl, ?_, World.cell?_setCell_same' _ _ _ (by rw [k1]; rfl)⟩
  rw [World.cell?_setCell_other _ _ _ _ (by intro e; injection e; omega)]
  exact World.cell?_setCell_same' _ _ _ (by rw [h0]; rfl)
theorem TwoBox.set {b : Nat} {A W : World} {x y u v : Int} {g : Nat} {p q : Value} (h : TwoBox b A W x y u v) (hg : b + 1 < g) (hA : A.heap.size ≤ g) :
    TwoBox b A ((W.setCell ⟨g, 0, none⟩ p).setCell ⟨g, 1, none⟩ q) x y u v := by
  obtain ⟨h0, h1, h2, h3, hl, hB⟩ := h
  have key : ∀ (i o : Nat), i ≤ b + 1 → ((W.setCell ⟨g, 0, none⟩ p).setCell ⟨g, 1, none⟩ q).cell? ⟨i, o, none⟩ = W.cell? ⟨i, o, none⟩ := by
    intro i o hi
    rw [World.cell?_setCell_other _ _ _ _ (by intro e; injection e; omega), World.cell?_setCell_other _ _ _ _ (by intro e; injection e; omega)]
  exact ⟨(key _ _ (by omega)).trans h0, (key _ _ (by omega)).trans h1, (key _ _ (by omega)).trans h2, (key _ _ (by omega)).trans h3, by simpa using hl, below_set2 hB hA _ _⟩
theorem BoxAt.below_ {w w' : World} {B : Nat} {x y : Int} (h : BoxAt w B x y) (hb : Below w.heap.size w w') : BoxAt w' B x y := h.below hb

set_option maxHeartbeats 2000000 in
set_option maxRecDepth 100000 in
theorem wMeetOf (x y u v : Int) (w : World) :
    Calls Try.prog 9 #[.agg #[.int .i64 x, .int .i64 y], .agg #[.int .i64 u, .int .i64 v]] w fun e w' => e = .returned (.bool true) ∧ Below w.heap.size w w' := by
  obtain ⟨r, s, c, hV⟩ := meetV_form x y u v
  have T1 := Lib.hid (fun W => cToSpan x y W)
  have T2 := Lib.hid (fun W => cToSpan u v W)
  have D1 := Lib.hid (fun W => cMeetOf_spec x y u v W)
  have D2 := Lib.hid (fun W => cMeetOf_impl x y u v W)
  have E1 := Lib.hid (fun W => cEqSpan r s W)
  rw [hV] at D1 D2
  clear hV
  obtain ⟨W0, hW0⟩ : ∃ W0 : World, W0 = (w.alloc (.cells #[.int .i64 x, .int .i64 y] 53)).alloc (.cells #[.int .i64 u, .int .i64 v] 53) := ⟨_, rfl⟩
  have B0 : Below w.heap.size w W0 := by rw [hW0]; exact ((Below.refl _ _).alloc (Nat.le_refl _) _).alloc (by simp) _
  have K1 : BoxAt W0 w.heap.size x y := by rw [hW0]; exact (BoxAt.new w x y _).alloc _
  have K2 : BoxAt W0 (w.heap.size + 1) u v := by rw [hW0]; have h := BoxAt.new (w.alloc (.cells #[.int .i64 x, .int .i64 y] 53)) u v 53; simpa using h
  have HW := Lib.hid hW0
  clear hW0
  go_enter Try.func9, Try.ntmps9
  go_wp2_with fail
  rw [← HW.out]
  clear HW
  obtain ⟨l1, a0, a1⟩ := K1
  obtain ⟨l2, b0, b1⟩ := K2
  go_cut [5, 6] (fun p q wx => ∃ g : Nat, p = .pointer (some ⟨g, 0, none⟩) ∧ q = .int .i64 c ∧ BoxAt wx g r s ∧ TwoBox w.heap.size W0 wx x y u v)
  case first =>
    go_region_held3 (fun W => W.cell? ⟨w.heap.size, 0, none⟩ = some (.int .i64 x) ∧ W.cell? ⟨w.heap.size, 1, none⟩ = some (.int .i64 y) ∧ W.cell? ⟨w.heap.size + 1, 0, none⟩ = some (.int .i64 u) ∧ W.cell? ⟨w.heap.size + 1, 1, none⟩ = some (.int .i64 v) ∧ w.heap.size + 1 < W.heap.size ∧ Below W0.heap.size W0 W) (first | (exact ⟨a0, a1, b0, b1, l2, (Below.refl _ _).drew⟩) | (exact TwoBox.keep (by assumption) hb) | (exact TwoBox.keep hS (below_alloc _ _)) | (exact TwoBox.keep (A := W0) (by assumption) (below_alloc _ _)) | (exact TwoBox.set hS (by first | assumption | omega) (by first | assumption | omega)) | go_keep) ((first | (go_at_call_of 44 (Value.agg #[Value.int IntKind.i64 x, Value.int IntKind.i64 y]); refine (T1.out _).mono ?_; rintro e w1 ⟨rfl, hb⟩; have hb1 := hb; obtain ⟨hcb, hfb⟩ := bcell hb; have hzb := hb.size; have hS : TwoBox w.heap.size W0 _ x y u v := TwoBox.keep (by assumption) hb; have hlS := hS.2.2.2.2.1; have hzS := hS.2.2.2.2.2.size; (try simp at hzb); (try (have hq0 : W0.heap.size < w1.heap.size := by omega))) | (go_at_call_of 44 (Value.agg #[Value.int IntKind.i64 u, Value.int IntKind.i64 v]); refine (T2.out _).mono ?_; rintro e w2 ⟨rfl, hb⟩; have hb2 := hb; obtain ⟨hcb, hfb⟩ := bcell hb; have hzb := hb.size; have hS : TwoBox w.heap.size W0 _ x y u v := TwoBox.keep (by assumption) hb; have hlS := hS.2.2.2.2.1; have hzS := hS.2.2.2.2.2.size; (try simp at hzb); (try (have hq0 : W0.heap.size < w2.heap.size := by omega)); (try (have hq1 : w1.heap.size < w2.heap.size := by omega))) | (go_at_call 29; refine (D1.out _).mono ?_; rintro e w3 ⟨rfl, hb⟩; have hb3 := hb; obtain ⟨hcb, hfb⟩ := bcell hb; have hzb := hb.size; have hS : TwoBox w.heap.size W0 _ x y u v := TwoBox.keep (by assumption) hb; have hlS := hS.2.2.2.2.1; have hzS := hS.2.2.2.2.2.size; (try simp at hzb); (try (have hq0 : W0.heap.size < w3.heap.size := by omega)); (try (have hq1 : w1.heap.size < w3.heap.size := by omega)); (try (have hq2 : w2.heap.size < w3.heap.size := by omega)))))
    all_goals (go_wp2_with fail; go_meet)
    all_goals first
      | exact ⟨_, rfl, rfl, BoxAt.new _ _ _ _, by assumption⟩
      | exact ⟨_, rfl, rfl, BoxAt.set ((BoxAt.new w2 0 0 36).below hb3) _ _, by assumption⟩
      | exact ⟨_, rfl, rfl, BoxAt.set (((BoxAt.new w1 0 0 36).below hb2).below hb3) _ _, by assumption⟩
      | exact ⟨_, rfl, rfl, BoxAt.set ((((BoxAt.new W0.drew 0 0 36).below hb1).below hb2).below hb3) _ _, by assumption⟩
  case rest =>
    obtain ⟨g, rfl, rfl, hR, hK⟩ := hcut
    obtain ⟨W1, hW1⟩ : ∃ W1 : World, W1 = wc := ⟨_, rfl⟩
    subst hW1
    clear a0 a1 b0 b1 l2
    obtain ⟨a0, a1, b0, b1, l2, B1⟩ := hK
    go_upto_region 2 with fail
    go_cut [7, 8] (fun p q wx => ∃ g : Nat, p = .pointer (some ⟨g, 0, none⟩) ∧ q = .int .i64 c ∧ BoxAt wx g r s ∧ TwoBox w.heap.size W1 wx x y u v)
    case first =>
      go_region_held3 (fun W => W.cell? ⟨w.heap.size, 0, none⟩ = some (.int .i64 x) ∧ W.cell? ⟨w.heap.size, 1, none⟩ = some (.int .i64 y) ∧ W.cell? ⟨w.heap.size + 1, 0, none⟩ = some (.int .i64 u) ∧ W.cell? ⟨w.heap.size + 1, 1, none⟩ = some (.int .i64 v) ∧ w.heap.size + 1 < W.heap.size ∧ Below W1.heap.size W1 W) (first | (exact ⟨a0, a1, b0, b1, l2, (Below.refl _ _).drew⟩) | (exact TwoBox.keep (by assumption) hb) | (exact TwoBox.keep hS (below_alloc _ _)) | (exact TwoBox.keep (A := W1) (by assumption) (below_alloc _ _)) | (exact TwoBox.set hS (by first | assumption | omega) (by first | assumption | omega)) | go_keep) ((first | (go_at_call_of 44 (Value.agg #[Value.int IntKind.i64 x, Value.int IntKind.i64 y]); refine (T1.out _).mono ?_; rintro e w1 ⟨rfl, hb⟩; have hb1 := hb; obtain ⟨hcb, hfb⟩ := bcell hb; have hzb := hb.size; have hS : TwoBox w.heap.size W1 _ x y u v := TwoBox.keep (by assumption) hb; have hlS := hS.2.2.2.2.1; have hzS := hS.2.2.2.2.2.size; (try simp at hzb); (try (have hq0 : W1.heap.size < w1.heap.size := by omega))) | (go_at_call_of 44 (Value.agg #[Value.int IntKind.i64 u, Value.int IntKind.i64 v]); refine (T2.out _).mono ?_; rintro e w2 ⟨rfl, hb⟩; have hb2 := hb; obtain ⟨hcb, hfb⟩ := bcell hb; have hzb := hb.size; have hS : TwoBox w.heap.size W1 _ x y u v := TwoBox.keep (by assumption) hb; have hlS := hS.2.2.2.2.1; have hzS := hS.2.2.2.2.2.size; (try simp at hzb); (try (have hq0 : W1.heap.size < w2.heap.size := by omega)); (try (have hq1 : w1.heap.size < w2.heap.size := by omega))) | (go_at_call 28; refine (D2.out _).mono ?_; rintro e w3 ⟨rfl, hb⟩; have hb3 := hb; obtain ⟨hcb, hfb⟩ := bcell hb; have hzb := hb.size; have hS : TwoBox w.heap.size W1 _ x y u v := TwoBox.keep (by assumption) hb; have hlS := hS.2.2.2.2.1; have hzS := hS.2.2.2.2.2.size; (try simp at hzb); (try (have hq0 : W1.heap.size < w3.heap.size := by omega)); (try (have hq1 : w1.heap.size < w3.heap.size := by omega)); (try (have hq2 : w2.heap.size < w3.heap.size := by omega)))))
      all_goals (go_wp2_with fail; go_meet)
      all_goals first
        | exact ⟨_, rfl, rfl, BoxAt.new _ _ _ _, by assumption⟩
        | exact ⟨_, rfl, rfl, BoxAt.set ((BoxAt.new w2 0 0 36).below hb3) _ _, by assumption⟩
        | exact ⟨_, rfl, rfl, BoxAt.set (((BoxAt.new w1 0 0 36).below hb2).below hb3) _ _, by assumption⟩
        | exact ⟨_, rfl, rfl, BoxAt.set ((((BoxAt.new W1.drew 0 0 36).below hb1).below hb2).below hb3) _ _, by assumption⟩
    case rest =>
      obtain ⟨g', rfl, rfl, hR', hK⟩ := hcut
      have hB2 := hK.2.2.2.2.2
      have hR2 := hR.below hB2
      obtain ⟨k0, k1, k2⟩ := hR'
      obtain ⟨m0, m1, m2⟩ := hR2
      have hd : (c != c) = false := by simp
      have HB := Lib.hid (B0.trans ((B1.mono B0.size).trans (hB2.mono (Nat.le_trans B0.size B1.size))))
      clear hK hB2 B1 B0 a0 a1 b0 b1
      go_wp2_with fail
      refine (E1.out _).mono ?_
      rintro e w9 ⟨rfl, hb⟩
      go_wp2_with fail
      go_ret
      exact ⟨rfl, HB.out.trans (hb.mono HB.out.size)⟩
end Go.Proofs.Ytlncmnheaifdmaa
