/-
  The contracts of MeetOf of both packages.
-/
import Derived.Test.YthlajgkelggnkaaDoMeet
namespace Go.Proofs.Ythlajgkelggnkaa
set_option linter.unusedVariables false
open Go.RowKit

/-- The world with two spans in boxes and a box for the result. -/
def boxes3 (w : World) (x y u v : Int) : World := (boxes w x y u v).alloc (.cells #[.int .i64 0, .int .i64 0] 30)
theorem boxes3_facts (w : World) (x y u v : Int) : Below w.heap.size w (boxes3 w x y u v) ∧ BoxAt (boxes3 w x y u v) w.heap.size x y ∧ BoxAt (boxes3 w x y u v) (w.heap.size + 1) u v ∧ ResAt (boxes3 w x y u v) (w.heap.size + 1 + 1) 0 0 := by
  refine ⟨(((Below.refl _ _).alloc (Nat.le_refl _) _).alloc (by simp) _).alloc (by simp; omega) _, ((BoxAt.new w x y _).alloc _).alloc _, ?_, ?_⟩
  · have h := (BoxAt.new (w.alloc (.cells #[.int .i64 x, .int .i64 y] 30)) u v 30).alloc (.cells #[.int .i64 0, .int .i64 0] 30)
    simpa [boxes3, boxes] using h
  · have h := ResAt.new (boxes w x y u v) 0 0 30
    have e : (boxes w x y u v).heap.size = w.heap.size + 1 + 1 := by simp [boxes]
    rw [e] at h
    exact h
theorem below_set2 {B : Nat} {w w' : World} (h : Below B w w') {g : Nat} (hg : B ≤ g) (x y : Value) : Below B w ((w'.setCell ⟨g, 0, none⟩ x).setCell ⟨g, 1, none⟩ y) := (h.setCell hg x).setCell hg y

set_option maxHeartbeats 400000 in
theorem cMeetOf_spec (x y u v : Int) (w : World) :
    Calls Try.prog 13 #[.agg #[.int .i64 x, .int .i64 y], .agg #[.int .i64 u, .int .i64 v]] w fun e w' => e = .returned (meetV x y u v) ∧ Below w.heap.size w w' := by
  obtain ⟨B2, K1, K2, K3⟩ := boxes3_facts w x y u v
  have C1 := Lib.hid (fun W => cTwo x y u v W)
  have C2 := Lib.hid (fun W => cMeet_spec x y u v W)
  cases h : (spB x y && spB u v)
  · have HJ := Lib.hid (meetV_bad h)
    rw [h] at C1
    clear h
    go_enter Try.func13, Try.ntmps13
    go_wp2_with fail
    refine (C1.out _).mono ?_
    rintro e w1 ⟨rfl, hb1⟩
    obtain ⟨⟨l3, a0, a1⟩, f0, f1⟩ := K3.below hb1
    have B3 := B2.trans (hb1.mono B2.size)
    go_wp2_with fail
    refine bodyPost_ret ?_ rfl ⟨by rw [HJ.out], below_set2 B3 (by omega) _ _⟩
    simp [results, Try.results13, go_sem, a0, a1]
  · have hh : spB x y = true ∧ spB u v = true := by simpa using h
    rw [h] at C1
    cases hm : meetB x y u v
    · have HJ := Lib.hid (meetV_apart hh.1 hh.2 hm)
      rw [hm] at C2
      clear h hh hm
      go_enter Try.func13, Try.ntmps13
      go_wp2_with fail
      refine (C1.out _).mono ?_
      rintro e w1 ⟨rfl, hb1⟩
      obtain ⟨_, a0, a1⟩ := K1.below hb1
      obtain ⟨_, b0, b1⟩ := K2.below hb1
      have K4 := K3.below hb1
      have B3 := B2.trans (hb1.mono B2.size)
      go_wp2_with fail
      refine (C2.out _).mono ?_
      rintro e w2 ⟨rfl, hb2⟩
      obtain ⟨⟨l3, a0, a1⟩, f0, f1⟩ := K4.below hb2
      have B4 := B3.trans (hb2.mono B3.size)
      go_wp2_with fail
      refine bodyPost_ret ?_ rfl ⟨by rw [HJ.out], below_set2 B4 (by omega) _ _⟩
      simp [results, Try.results13, go_sem, a0, a1]
    · have HJ := Lib.hid (meetV_ok hh.1 hh.2 hm)
      rw [hm] at C2
      clear h hh hm
      go_enter Try.func13, Try.ntmps13
      go_wp2_with fail
      refine (C1.out _).mono ?_
      rintro e w1 ⟨rfl, hb1⟩
      have L1 := K1.below hb1
      have L2 := K2.below hb1
      obtain ⟨_, a0, a1⟩ := id L1
      obtain ⟨_, b0, b1⟩ := id L2
      have K4 := K3.below hb1
      have B3 := B2.trans (hb1.mono B2.size)
      go_wp2_with fail
      refine (C2.out _).mono ?_
      rintro e w2 ⟨rfl, hb2⟩
      obtain ⟨_, c0, c1⟩ := L1.below hb2
      obtain ⟨_, d0, d1⟩ := L2.below hb2
      obtain ⟨⟨l3, e0, e1⟩, f0, f1⟩ := K4.below hb2
      have B4 := B3.trans (hb2.mono B3.size)
      go_wp2_with fail
      all_goals
        rw [Lib.hid HJ.out |>.out]
        first | rw [Int.max_eq_right (a := x) (b := u) (by omega)] | rw [Int.max_eq_left (a := x) (b := u) (by omega)]
        first | rw [Int.min_eq_right (a := y) (b := v) (by omega)] | rw [Int.min_eq_left (a := y) (b := v) (by omega)]
        refine bodyPost_ret ?_ rfl ⟨rfl, below_set2 B4 (by omega) _ _⟩
        simp [results, Try.results13, go_sem, e0, e1]

set_option maxHeartbeats 400000 in
theorem cMeetOf_impl (x y u v : Int) (w : World) :
    Calls Try.prog 12 #[.agg #[.int .i64 x, .int .i64 y], .agg #[.int .i64 u, .int .i64 v]] w fun e w' => e = .returned (meetV x y u v) ∧ Below w.heap.size w w' := by
  obtain ⟨B2, K1, K2, K3⟩ := boxes3_facts w x y u v
  have C1 := Lib.hid (fun W => cValid x y W)
  have C2 := Lib.hid (fun W => cValid u v W)
  have C3 := Lib.hid (fun W => cMeet x y u v W)
  cases h1 : spB x y
  · have HJ := Lib.hid (meetV_bad (x := x) (y := y) (u := u) (v := v) (by rw [h1]; rfl))
    rw [h1] at C1
    clear h1
    go_enter Try.func12, Try.ntmps12
    go_wp2_with fail
    refine (C1.out _).mono ?_
    rintro e w1 ⟨rfl, hb1⟩
    obtain ⟨⟨l3, a0, a1⟩, f0, f1⟩ := K3.below hb1
    have B3 := B2.trans (hb1.mono B2.size)
    go_wp2_with fail
    refine bodyPost_ret ?_ rfl ⟨by rw [HJ.out], below_set2 B3 (by omega) _ _⟩
    simp [results, Try.results12, go_sem, a0, a1]
  rw [h1] at C1
  cases h2 : spB u v
  · have HJ := Lib.hid (meetV_bad (x := x) (y := y) (u := u) (v := v) (by rw [h2, Bool.and_false]))
    rw [h2] at C2
    clear h1 h2
    go_enter Try.func12, Try.ntmps12
    go_wp2_with fail
    refine (C1.out _).mono ?_
    rintro e w1 ⟨rfl, hb1⟩
    obtain ⟨_, b0, b1⟩ := K2.below hb1
    have K4 := K3.below hb1
    have B3 := B2.trans (hb1.mono B2.size)
    go_wp2_with fail
    refine (C2.out _).mono ?_
    rintro e w2 ⟨rfl, hb2⟩
    obtain ⟨⟨l3, a0, a1⟩, f0, f1⟩ := K4.below hb2
    have B4 := B3.trans (hb2.mono B3.size)
    go_wp2_with fail
    refine bodyPost_ret ?_ rfl ⟨by rw [HJ.out], below_set2 B4 (by omega) _ _⟩
    simp [results, Try.results12, go_sem, a0, a1]
  rw [h2] at C2
  have hv := meet_valid h1 h2
  have C4 := Lib.hid (fun W => cValid (max x u) (min y v) W)
  obtain ⟨mx, hmx⟩ : ∃ mx, mx = max x u := ⟨_, rfl⟩
  obtain ⟨mn, hmn⟩ : ∃ mn, mn = min y v := ⟨_, rfl⟩
  cases hm : meetB x y u v
  · have HJ := Lib.hid (meetV_apart h1 h2 hm)
    rw [hv, hm, ← hmx, ← hmn] at C4
    rw [← hmx, ← hmn] at C3
    clear h1 h2 hm hv hmx hmn
    go_enter Try.func12, Try.ntmps12
    go_wp2_with fail
    refine (C1.out _).mono ?_
    rintro e w1 ⟨rfl, hb1⟩
    have L1 := K1.below hb1
    have L2 := K2.below hb1
    obtain ⟨_, b0, b1⟩ := id L2
    have K4 := K3.below hb1
    have B3 := B2.trans (hb1.mono B2.size)
    go_wp2_with fail
    refine (C2.out _).mono ?_
    rintro e w2 ⟨rfl, hb2⟩
    obtain ⟨_, c0, c1⟩ := L1.below hb2
    obtain ⟨_, d0, d1⟩ := L2.below hb2
    have K5 := K4.below hb2
    have B4 := B3.trans (hb2.mono B3.size)
    go_wp2_with fail
    refine (C3.out _).mono ?_
    rintro e w3 ⟨rfl, hb3⟩
    have K6 := K5.below hb3
    have B5 := B4.trans (hb3.mono B4.size)
    have K7 := K6.below (below_alloc w3 (.cells #[.int .i64 mx, .int .i64 mn] 30))
    have B6 := B5.alloc B5.size (.cells #[.int .i64 mx, .int .i64 mn] 30)
    go_wp2_with fail
    refine (C4.out _).mono ?_
    rintro e w4 ⟨rfl, hb4⟩
    obtain ⟨⟨l3, e0, e1⟩, f0, f1⟩ := K7.below hb4
    have B7 := B6.trans (hb4.mono B6.size)
    go_wp2_with fail
    refine bodyPost_ret ?_ rfl ⟨by rw [HJ.out], below_set2 B7 (by omega) _ _⟩
    simp [results, Try.results12, go_sem, e0, e1]
  · have HJ := Lib.hid (meetV_ok h1 h2 hm)
    rw [hv, hm, ← hmx, ← hmn] at C4
    rw [← hmx, ← hmn] at C3 HJ
    clear h1 h2 hm hv hmx hmn
    go_enter Try.func12, Try.ntmps12
    go_wp2_with fail
    refine (C1.out _).mono ?_
    rintro e w1 ⟨rfl, hb1⟩
    have L1 := K1.below hb1
    have L2 := K2.below hb1
    obtain ⟨_, b0, b1⟩ := id L2
    have K4 := K3.below hb1
    have B3 := B2.trans (hb1.mono B2.size)
    go_wp2_with fail
    refine (C2.out _).mono ?_
    rintro e w2 ⟨rfl, hb2⟩
    obtain ⟨_, c0, c1⟩ := L1.below hb2
    obtain ⟨_, d0, d1⟩ := L2.below hb2
    have K5 := K4.below hb2
    have B4 := B3.trans (hb2.mono B3.size)
    go_wp2_with fail
    refine (C3.out _).mono ?_
    rintro e w3 ⟨rfl, hb3⟩
    have K6 := K5.below hb3
    have B5 := B4.trans (hb3.mono B4.size)
    have K7 := K6.below (below_alloc w3 (.cells #[.int .i64 mx, .int .i64 mn] 30))
    have N3 := BoxAt.new w3 mx mn 30
    have B6 := B5.alloc B5.size (.cells #[.int .i64 mx, .int .i64 mn] 30)
    go_wp2_with fail
    refine (C4.out _).mono ?_
    rintro e w4 ⟨rfl, hb4⟩
    obtain ⟨⟨l3, e0, e1⟩, f0, f1⟩ := K7.below hb4
    obtain ⟨_, n0, n1⟩ := N3.below hb4
    have B7 := B6.trans (hb4.mono B6.size)
    go_wp2_with fail
    refine bodyPost_ret ?_ rfl ⟨by rw [HJ.out], below_set2 B7 (by omega) _ _⟩
    simp [results, Try.results12, go_sem, e0, e1]
end Go.Proofs.Ythlajgkelggnkaa
