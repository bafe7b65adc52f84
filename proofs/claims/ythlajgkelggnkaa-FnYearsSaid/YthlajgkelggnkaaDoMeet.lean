/-
  The contracts of DoMeet and MeetOf of both packages.
-/
import Derived.Test.YthlajgkelggnkaaMeet
namespace Go.Proofs.Ythlajgkelggnkaa
set_option linter.unusedVariables false
open Go.RowKit

theorem bcell {W w1 : World} (hb : Below W.heap.size W w1) : (∀ b o, b < W.heap.size → w1.cell? ⟨b, o, none⟩ = W.cell? ⟨b, o, none⟩) ∧ (∀ b o, b < W.heap.size → w1.frozen? ⟨b, o, none⟩ = W.frozen? ⟨b, o, none⟩) :=
  ⟨fun b o h => hb.cell (p := ⟨b, o, none⟩) h, fun b o h => hb.frozen (p := ⟨b, o, none⟩) h⟩
theorem box_cell (w : World) (x y : Int) (t : TypeId) : (w.alloc (.cells #[.int .i64 x, .int .i64 y] t)).cell? ⟨w.heap.size, 0, none⟩ = some (.int .i64 x) ∧ (w.alloc (.cells #[.int .i64 x, .int .i64 y] t)).cell? ⟨w.heap.size, 1, none⟩ = some (.int .i64 y) :=
  ⟨by rw [World.cell?_alloc_at _ _ _ _ rfl]; rfl, by rw [World.cell?_alloc_at _ _ _ _ rfl]; rfl⟩

/-- The world with two spans in boxes. -/
def boxes (w : World) (x y u v : Int) : World := (w.alloc (.cells #[.int .i64 x, .int .i64 y] 30)).alloc (.cells #[.int .i64 u, .int .i64 v] 30)
def BoxAt (w : World) (B : Nat) (x y : Int) : Prop := B < w.heap.size ∧ w.cell? ⟨B, 0, none⟩ = some (.int .i64 x) ∧ w.cell? ⟨B, 1, none⟩ = some (.int .i64 y)
theorem BoxAt.below {w w' : World} {B : Nat} {x y : Int} (h : BoxAt w B x y) (hb : Below w.heap.size w w') : BoxAt w' B x y :=
  ⟨Nat.lt_of_lt_of_le h.1 hb.size, (hb.cell (p := ⟨B, 0, none⟩) h.1).trans h.2.1, (hb.cell (p := ⟨B, 1, none⟩) h.1).trans h.2.2⟩
theorem BoxAt.new (w : World) (x y : Int) (t : TypeId) : BoxAt (w.alloc (.cells #[.int .i64 x, .int .i64 y] t)) w.heap.size x y := ⟨by simp, (box_cell w x y t).1, (box_cell w x y t).2⟩
/-- A box that may be written. -/
def ResAt (w : World) (B : Nat) (x y : Int) : Prop := BoxAt w B x y ∧ w.frozen? ⟨B, 0, none⟩ = false ∧ w.frozen? ⟨B, 1, none⟩ = false
theorem ResAt.below {w w' : World} {B : Nat} {x y : Int} (h : ResAt w B x y) (hb : Below w.heap.size w w') : ResAt w' B x y :=
  ⟨h.1.below hb, (hb.frozen (p := ⟨B, 0, none⟩) h.1.1).trans h.2.1, (hb.frozen (p := ⟨B, 1, none⟩) h.1.1).trans h.2.2⟩
theorem ResAt.new (w : World) (x y : Int) (t : TypeId) : ResAt (w.alloc (.cells #[.int .i64 x, .int .i64 y] t)) w.heap.size x y :=
  ⟨BoxAt.new w x y t, by unfold World.frozen?; rw [heap_alloc_new]; simp, by unfold World.frozen?; rw [heap_alloc_new]; simp⟩
theorem below_alloc (w : World) (o : Obj) : Below w.heap.size w (w.alloc o) := (Below.refl _ _).alloc (Nat.le_refl _) _
theorem BoxAt.alloc {w : World} {B : Nat} {x y : Int} (h : BoxAt w B x y) (o : Obj) : BoxAt (w.alloc o) B x y := h.below (below_alloc w o)

def doV (x y u v : Int) : Value := if spB x y && spB u v then .tuple #[.bool (meetB x y u v), .int .i64 0] else .tuple #[.bool false, .int .i64 1]
theorem doV_ok {x y u v : Int} (h1 : spB x y = true) (h2 : spB u v = true) : doV x y u v = .tuple #[.bool (meetB x y u v), .int .i64 0] := by unfold doV; rw [h1, h2]; rfl
theorem doV_bad {x y u v : Int} (h : (spB x y && spB u v) = false) : doV x y u v = .tuple #[.bool false, .int .i64 1] := by unfold doV; rw [h]; rfl

theorem cDo_spec (x y u v : Int) (w : World) :
    Calls Try.prog 15 #[.agg #[.int .i64 x, .int .i64 y], .agg #[.int .i64 u, .int .i64 v]] w fun e w' => e = .returned (doV x y u v) ∧ Below w.heap.size w w' := by
  have B2 : Below w.heap.size w (boxes w x y u v) := ((Below.refl _ _).alloc (Nat.le_refl _) _).alloc (by simp) _
  have K1 : BoxAt (boxes w x y u v) w.heap.size x y := (BoxAt.new w x y _).alloc _
  have K2 : BoxAt (boxes w x y u v) (w.heap.size + 1) u v := by have h := BoxAt.new (w.alloc (.cells #[.int .i64 x, .int .i64 y] 30)) u v 30; simpa [boxes] using h
  have C1 := Lib.hid (fun W => cTwo x y u v W)
  have C2 := Lib.hid (fun W => cMeet_spec x y u v W)
  cases h : (spB x y && spB u v)
  · have HJ := Lib.hid (doV_bad h)
    rw [h] at C1
    clear h
    go_enter Try.func15, Try.ntmps15
    go_wp2_with fail
    refine (C1.out _).mono ?_
    rintro e w1 ⟨rfl, hb1⟩
    go_wp2_with fail
    go_ret2
    exact ⟨by rw [HJ.out]; rfl, B2.trans (hb1.mono B2.size)⟩
  · have hh : spB x y = true ∧ spB u v = true := by simpa using h
    have HJ := Lib.hid (doV_ok hh.1 hh.2)
    rw [h] at C1
    clear h hh
    go_enter Try.func15, Try.ntmps15
    go_wp2_with fail
    refine (C1.out _).mono ?_
    rintro e w1 ⟨rfl, hb1⟩
    obtain ⟨_, a0, a1⟩ := K1.below hb1
    obtain ⟨_, b0, b1⟩ := K2.below hb1
    have B3 := B2.trans (hb1.mono B2.size)
    go_wp2_with fail
    refine (C2.out _).mono ?_
    rintro e w2 ⟨rfl, hb2⟩
    go_wp2_with fail
    go_ret2
    exact ⟨by rw [HJ.out]; rfl, B3.trans (hb2.mono B3.size)⟩

theorem cDo_impl (x y u v : Int) (w : World) :
    Calls Try.prog 14 #[.agg #[.int .i64 x, .int .i64 y], .agg #[.int .i64 u, .int .i64 v]] w fun e w' => e = .returned (doV x y u v) ∧ Below w.heap.size w w' := by
  have B2 : Below w.heap.size w (boxes w x y u v) := ((Below.refl _ _).alloc (Nat.le_refl _) _).alloc (by simp) _
  have K1 : BoxAt (boxes w x y u v) w.heap.size x y := (BoxAt.new w x y _).alloc _
  have K2 : BoxAt (boxes w x y u v) (w.heap.size + 1) u v := by have h := BoxAt.new (w.alloc (.cells #[.int .i64 x, .int .i64 y] 30)) u v 30; simpa [boxes] using h
  have C1 := Lib.hid (fun W => cValid x y W)
  have C2 := Lib.hid (fun W => cValid u v W)
  have C3 := Lib.hid (fun W => cMeet x y u v W)
  cases h1 : spB x y
  · have HJ := Lib.hid (doV_bad (x := x) (y := y) (u := u) (v := v) (by rw [h1]; rfl))
    rw [h1] at C1
    clear h1
    go_enter Try.func14, Try.ntmps14
    go_wp2_with fail
    refine (C1.out _).mono ?_
    rintro e w1 ⟨rfl, hb1⟩
    go_wp2_with fail
    go_ret2
    exact ⟨by rw [HJ.out]; rfl, B2.trans (hb1.mono B2.size)⟩
  cases h2 : spB u v
  · have HJ := Lib.hid (doV_bad (x := x) (y := y) (u := u) (v := v) (by rw [h2, Bool.and_false]))
    rw [h1] at C1
    rw [h2] at C2
    clear h1 h2
    go_enter Try.func14, Try.ntmps14
    go_wp2_with fail
    refine (C1.out _).mono ?_
    rintro e w1 ⟨rfl, hb1⟩
    obtain ⟨_, b0, b1⟩ := K2.below hb1
    have B3 := B2.trans (hb1.mono B2.size)
    go_wp2_with fail
    refine (C2.out _).mono ?_
    rintro e w2 ⟨rfl, hb2⟩
    go_wp2_with fail
    go_ret2
    exact ⟨by rw [HJ.out]; rfl, B3.trans (hb2.mono B3.size)⟩
  · have HJ := Lib.hid (doV_ok h1 h2)
    have C4 := Lib.hid (fun W => cValid (max x u) (min y v) W)
    rw [meet_valid h1 h2] at C4
    rw [h1] at C1
    rw [h2] at C2
    clear h1 h2
    go_enter Try.func14, Try.ntmps14
    go_wp2_with fail
    refine (C1.out _).mono ?_
    rintro e w1 ⟨rfl, hb1⟩
    have L1 := K1.below hb1
    have L2 := K2.below hb1
    obtain ⟨_, b0, b1⟩ := L2
    have B3 := B2.trans (hb1.mono B2.size)
    go_wp2_with fail
    refine (C2.out _).mono ?_
    rintro e w2 ⟨rfl, hb2⟩
    obtain ⟨_, c0, c1⟩ := L1.below hb2
    obtain ⟨_, d0, d1⟩ := BoxAt.below ⟨by assumption, b0, b1⟩ hb2
    have B4 := B3.trans (hb2.mono B3.size)
    go_wp2_with fail
    refine (C3.out _).mono ?_
    rintro e w3 ⟨rfl, hb3⟩
    have B5 := B4.trans (hb3.mono B4.size)
    go_wp2_with fail
    refine (C4.out _).mono ?_
    rintro e w4 ⟨rfl, hb4⟩
    go_wp2_with fail
    go_ret2
    exact ⟨by rw [HJ.out]; rfl, B5.trans (hb4.mono B5.size)⟩

def meetV (x y u v : Int) : Value := if spB x y && spB u v then (if meetB x y u v then .tuple #[.agg #[.int .i64 (max x u), .int .i64 (min y v)], .int .i64 0] else .tuple #[.agg #[.int .i64 0, .int .i64 0], .int .i64 4]) else .tuple #[.agg #[.int .i64 0, .int .i64 0], .int .i64 1]
theorem meetV_ok {x y u v : Int} (h1 : spB x y = true) (h2 : spB u v = true) (h3 : meetB x y u v = true) : meetV x y u v = .tuple #[.agg #[.int .i64 (max x u), .int .i64 (min y v)], .int .i64 0] := by unfold meetV; rw [h1, h2, h3]; rfl
theorem meetV_apart {x y u v : Int} (h1 : spB x y = true) (h2 : spB u v = true) (h3 : meetB x y u v = false) : meetV x y u v = .tuple #[.agg #[.int .i64 0, .int .i64 0], .int .i64 4] := by unfold meetV; rw [h1, h2, h3]; rfl
theorem meetV_bad {x y u v : Int} (h : (spB x y && spB u v) = false) : meetV x y u v = .tuple #[.agg #[.int .i64 0, .int .i64 0], .int .i64 1] := by unfold meetV; rw [h]; rfl
end Go.Proofs.Ythlajgkelggnkaa
