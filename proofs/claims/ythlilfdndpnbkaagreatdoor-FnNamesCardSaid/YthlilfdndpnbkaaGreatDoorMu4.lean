/-
  The contracts of the functions that ask whether one span is valid, and of the laws' toSpan.
-/
import Derived.Test.YthlilfdndpnbkaaGreatDoorMu2
import Derived.Test.YthlilfdndpnbkaaGreatDoorMu3
import Derived.BigQuiet
import Derived.Deep.QuietTactic
import Derived.Handy
import Derived.Outline
namespace Go.Proofs.YthlilfdndpnbkaaGreatDoor
section
set_option linter.unusedVariables false
open Go.RowKit

theorem spB_lo {x y : Int} (h : ¬ -3000 ≤ x) : spB x y = false := by unfold spB; rw [decide_eq_false h]; rfl
theorem spB_mid {x y : Int} (h : ¬ x ≤ y) : spB x y = false := by unfold spB; rw [decide_eq_false h, Bool.and_false]; rfl
theorem spB_hi {x y : Int} (h : ¬ y ≤ 3000) : spB x y = false := by unfold spB; rw [decide_eq_false h, Bool.and_false]

theorem cValid (x y : Int) (w : World) :
    Calls Tryz.prog 87 #[.agg #[.int .i64 x, .int .i64 y]] w fun e w' => e = .returned (.bool (spB x y)) ∧ Below w.heap.size w w' := by
  by_cases h1 : -3000 ≤ x
  · by_cases h2 : x ≤ y
    · by_cases h3 : y ≤ 3000
      · have HX := Lib.hid (spB_mk h1 h2 h3)
        go_enter Tryz.func87, Tryz.ntmps87
        go_wp2
        go_ret
        exact ⟨ret_bool HX.out.symm, (Below.refl _ _).alloc (Nat.le_refl _) _⟩
      · have HX := Lib.hid (spB_hi (x := x) h3)
        have hd : decide (y ≤ 3000) = false := decide_eq_false h3
        go_enter Tryz.func87, Tryz.ntmps87
        go_wp2
        go_ret
        exact ⟨ret_bool HX.out.symm, (Below.refl _ _).alloc (Nat.le_refl _) _⟩
    · have HX := Lib.hid (spB_mid h2)
      have hd : decide (x ≤ y) = false := decide_eq_false h2
      go_enter Tryz.func87, Tryz.ntmps87
      go_wp2
      go_ret
      exact ⟨ret_bool HX.out.symm, (Below.refl _ _).alloc (Nat.le_refl _) _⟩
  · have HX := Lib.hid (spB_lo (y := y) h1)
    have hd : decide (-3000 ≤ x) = false := decide_eq_false h1
    go_enter Tryz.func87, Tryz.ntmps87
    go_wp2
    go_ret
    exact ⟨ret_bool HX.out.symm, (Below.refl _ _).alloc (Nat.le_refl _) _⟩

theorem cYear (n : Int) (w : World) : Calls Tryz.prog 105 #[.int .i64 n] w fun e w' => e = .returned (.bool (decide (-3000 ≤ n) && decide (n ≤ 3000))) ∧ w = w' := by
  go_enter Tryz.func105, Tryz.ntmps105
  go_wp2_with fail
  refine (cIn_any _ _ _ _).mono ?_
  rintro e w' ⟨rfl, rfl⟩
  go_wp2_with fail
  go_ret
  exact ⟨rfl, rfl⟩
theorem cYear_yes (n : Int) (w : World) (h1 : -3000 ≤ n) (h2 : n ≤ 3000) : Calls Tryz.prog 105 #[.int .i64 n] w fun e w' => e = .returned (.bool true) ∧ w = w' :=
  (cYear n w).mono fun e w' ⟨he, hw⟩ => ⟨by rw [he]; simp [h1, h2], hw⟩
theorem cYear_no (n : Int) (w : World) (h : n < -3000 ∨ 3000 < n) : Calls Tryz.prog 105 #[.int .i64 n] w fun e w' => e = .returned (.bool false) ∧ w = w' :=
  (cYear n w).mono fun e w' ⟨he, hw⟩ => ⟨by rw [he]; refine ret_bool ?_; rcases h with h | h <;> simp <;> omega, hw⟩

theorem cIsSpan_spec (x y : Int) (w : World) :
    Calls Tryz.prog 93 #[.agg #[.int .i64 x, .int .i64 y]] w fun e w' => e = .returned (.bool (spB x y)) ∧ Below w.heap.size w w' := by
  by_cases h1 : -3000 ≤ x ∧ x ≤ 3000
  · by_cases h2 : -3000 ≤ y ∧ y ≤ 3000
    · by_cases h3 : x ≤ y
      · have HX := Lib.hid (spB_mk h1.1 h3 h2.2)
        have C1 := Lib.hid (fun W => cYear_yes x W h1.1 h1.2)
        have C2 := Lib.hid (fun W => cYear_yes y W h2.1 h2.2)
        clear h1 h2
        go_enter Tryz.func93, Tryz.ntmps93
        go_wp2_with fail
        refine (C1.out _).mono ?_
        rintro e w' ⟨rfl, rfl⟩
        go_wp2_with fail
        refine (C2.out _).mono ?_
        rintro e w' ⟨rfl, rfl⟩
        go_wp2_with fail
        go_ret
        exact ⟨ret_bool HX.out.symm, (Below.refl _ _).alloc (Nat.le_refl _) _⟩
      · have HX := Lib.hid (spB_mid h3)
        have C1 := Lib.hid (fun W => cYear_yes x W h1.1 h1.2)
        have C2 := Lib.hid (fun W => cYear_yes y W h2.1 h2.2)
        have hd : decide (x ≤ y) = false := decide_eq_false h3
        clear h1 h2
        go_enter Tryz.func93, Tryz.ntmps93
        go_wp2_with fail
        refine (C1.out _).mono ?_
        rintro e w' ⟨rfl, rfl⟩
        go_wp2_with fail
        refine (C2.out _).mono ?_
        rintro e w' ⟨rfl, rfl⟩
        go_wp2_with fail
        go_ret
        exact ⟨ret_bool HX.out.symm, (Below.refl _ _).alloc (Nat.le_refl _) _⟩
    · have HX : Hid (spB x y = false) := Lib.hid (by
        cases h : spB x y
        · rfl
        · have := spB_bd h; omega)
      have C1 := Lib.hid (fun W => cYear_yes x W h1.1 h1.2)
      have C2 := Lib.hid (fun W => cYear_no y W (by omega))
      clear h1 h2
      go_enter Tryz.func93, Tryz.ntmps93
      go_wp2_with fail
      refine (C1.out _).mono ?_
      rintro e w' ⟨rfl, rfl⟩
      go_wp2_with fail
      refine (C2.out _).mono ?_
      rintro e w' ⟨rfl, rfl⟩
      go_wp2_with fail
      go_ret
      exact ⟨ret_bool HX.out.symm, (Below.refl _ _).alloc (Nat.le_refl _) _⟩
  · have HX : Hid (spB x y = false) := Lib.hid (by
      cases h : spB x y
      · rfl
      · have := spB_bd h; omega)
    have C1 := Lib.hid (fun W => cYear_no x W (by omega))
    clear h1
    go_enter Tryz.func93, Tryz.ntmps93
    go_wp2_with (go_at_call 105; refine (C1.out _).mono ?_; rintro e w' ⟨rfl, rfl⟩)
    go_ret
    exact ⟨ret_bool HX.out.symm, (Below.refl _ _).alloc (Nat.le_refl _) _⟩

end
section
set_option linter.unusedVariables false
open Go.RowKit

theorem cMeet (x y u v : Int) (w : World) :
    Calls Tryz.prog 122 #[.agg #[.int .i64 x, .int .i64 y], .agg #[.int .i64 u, .int .i64 v]] w fun e w' => e = .returned (.agg #[.int .i64 (max x u), .int .i64 (min y v)]) ∧ Below w.heap.size w w' := by
  go_enter Tryz.func122, Tryz.ntmps122
  go_wp2
  all_goals
    first | rw [Int.max_eq_right (a := x) (b := u) (by omega)] | rw [Int.max_eq_left (a := x) (b := u) (by omega)]
    first | rw [Int.min_eq_right (a := y) (b := v) (by omega)] | rw [Int.min_eq_left (a := y) (b := v) (by omega)]
    refine bodyPost_ret ?_ rfl ⟨rfl, (((Below.refl _ _).alloc (Nat.le_refl _) _).alloc (by simp) _).alloc (by simp; omega) _⟩
    simp [results, Tryz.results122, go_sem]

def meetB (x y u v : Int) : Bool := decide (x ≤ v) && decide (u ≤ y)
theorem meetB_yes {x y u v : Int} (h1 : x ≤ v) (h2 : u ≤ y) : meetB x y u v = true := by unfold meetB; simp [h1, h2]
theorem meetB_no {x y u v : Int} (h : v < x ∨ y < u) : meetB x y u v = false := by
  cases hh : meetB x y u v
  · rfl
  · unfold meetB at hh; simp at hh; omega
theorem meet_valid {x y u v : Int} (h1 : spB x y = true) (h2 : spB u v = true) : spB (max x u) (min y v) = meetB x y u v := by
  have a := spB_bd h1
  have b := spB_bd h2
  cases hm : meetB x y u v
  · cases hs : spB (max x u) (min y v)
    · rfl
    · have c := spB_bd hs
      rw [meetB_yes (by omega) (by omega)] at hm
      cases hm
  · unfold meetB at hm
    simp at hm
    exact spB_mk (by omega) (by omega) (by omega)

theorem cMeet_spec (x y u v : Int) (w : World) :
    Calls Tryz.prog 112 #[.agg #[.int .i64 x, .int .i64 y], .agg #[.int .i64 u, .int .i64 v]] w fun e w' => e = .returned (.bool (meetB x y u v)) ∧ Below w.heap.size w w' := by
  by_cases h1 : x ≤ v
  · by_cases h2 : u ≤ y
    · have HX := Lib.hid (meetB_yes h1 h2)
      go_enter Tryz.func112, Tryz.ntmps112
      go_wp2
      go_ret
      exact ⟨ret_bool HX.out.symm, ((Below.refl _ _).alloc (Nat.le_refl _) _).alloc (by simp) _⟩
    · have HX := Lib.hid (meetB_no (x := x) (v := v) (.inr (show y < u by omega)))
      have hd : decide (u ≤ y) = false := decide_eq_false h2
      go_enter Tryz.func112, Tryz.ntmps112
      go_wp2
      go_ret
      exact ⟨ret_bool HX.out.symm, ((Below.refl _ _).alloc (Nat.le_refl _) _).alloc (by simp) _⟩
  · have HX := Lib.hid (meetB_no (y := y) (u := u) (.inl (show v < x by omega)))
    have hd : decide (x ≤ v) = false := decide_eq_false h1
    go_enter Tryz.func112, Tryz.ntmps112
    go_wp2
    go_ret
    exact ⟨ret_bool HX.out.symm, ((Below.refl _ _).alloc (Nat.le_refl _) _).alloc (by simp) _⟩

theorem two_agg (x y : Int) : (Value.agg #[.int .i64 x, .int .i64 y]).cells = #[.int .i64 x, .int .i64 y] := rfl

end
section
set_option linter.unusedVariables false
open Go.RowKit

theorem bcell {W w1 : World} (hb : Below W.heap.size W w1) : (∀ b o, b < W.heap.size → w1.cell? ⟨b, o, none⟩ = W.cell? ⟨b, o, none⟩) ∧ (∀ b o, b < W.heap.size → w1.frozen? ⟨b, o, none⟩ = W.frozen? ⟨b, o, none⟩) :=
  ⟨fun b o h => hb.cell (p := ⟨b, o, none⟩) h, fun b o h => hb.frozen (p := ⟨b, o, none⟩) h⟩
theorem box_cell (w : World) (x y : Int) (t : TypeId) : (w.alloc (.cells #[.int .i64 x, .int .i64 y] t)).cell? ⟨w.heap.size, 0, none⟩ = some (.int .i64 x) ∧ (w.alloc (.cells #[.int .i64 x, .int .i64 y] t)).cell? ⟨w.heap.size, 1, none⟩ = some (.int .i64 y) :=
  ⟨by rw [World.cell?_alloc_at _ _ _ _ rfl]; rfl, by rw [World.cell?_alloc_at _ _ _ _ rfl]; rfl⟩

/-- The world with two spans in boxes. -/
def boxes (w : World) (x y u v : Int) : World := (w.alloc (.cells #[.int .i64 x, .int .i64 y] 25)).alloc (.cells #[.int .i64 u, .int .i64 v] 25)
def BoxAt (w : World) (B : Nat) (x y : Int) : Prop := B < w.heap.size ∧ w.cell? ⟨B, 0, none⟩ = some (.int .i64 x) ∧ w.cell? ⟨B, 1, none⟩ = some (.int .i64 y)
theorem BoxAt.below {w w' : World} {B : Nat} {x y : Int} (h : BoxAt w B x y) (hb : Below w.heap.size w w') : BoxAt w' B x y :=
  ⟨Nat.lt_of_lt_of_le h.1 hb.size, (hb.cell (p := ⟨B, 0, none⟩) h.1).trans h.2.1, (hb.cell (p := ⟨B, 1, none⟩) h.1).trans h.2.2⟩
theorem BoxAt.new (w : World) (x y : Int) (t : TypeId) : BoxAt (w.alloc (.cells #[.int .i64 x, .int .i64 y] t)) w.heap.size x y := ⟨by simp, (box_cell w x y t).1, (box_cell w x y t).2⟩
/-- A box that may be written. -/
def ResAt (w : World) (B : Nat) (x y : Int) : Prop := BoxAt w B x y ∧ w.frozen? ⟨B, 0, none⟩ = false ∧ w.frozen? ⟨B, 1, none⟩ = false
theorem ResAt.below {w w' : World} {B : Nat} {x y : Int} (h : ResAt w B x y) (hb : Below w.heap.size w w') : ResAt w' B x y :=
  ⟨h.1.below hb, (hb.frozen (p := ⟨B, 0, none⟩) h.1.1).trans h.2.1, (hb.frozen (p := ⟨B, 1, none⟩) h.1.1).trans h.2.2⟩
theorem ResAt.new (w : World) (x y : Int) (t : TypeId) : ResAt (w.alloc (.cells #[.int .i64 x, .int .i64 y] t)) w.heap.size x y :=
  ⟨BoxAt.new w x y t, by unfold World.frozen?; rw [heap_alloc_new]; simp, by unfold World.frozen?; rw [heap_alloc_new]; simp⟩
theorem below_alloc (w : World) (o : Obj) : Below w.heap.size w (w.alloc o) := (Below.refl _ _).alloc (Nat.le_refl _) _
theorem BoxAt.alloc {w : World} {B : Nat} {x y : Int} (h : BoxAt w B x y) (o : Obj) : BoxAt (w.alloc o) B x y := h.below (below_alloc w o)

def doV (x y u v : Int) : Value := if spB x y && spB u v then .tuple #[.bool (meetB x y u v), .int .i64 0] else .tuple #[.bool false, .int .i64 1]
theorem doV_ok {x y u v : Int} (h1 : spB x y = true) (h2 : spB u v = true) : doV x y u v = .tuple #[.bool (meetB x y u v), .int .i64 0] := by unfold doV; rw [h1, h2]; rfl
theorem doV_bad {x y u v : Int} (h : (spB x y && spB u v) = false) : doV x y u v = .tuple #[.bool false, .int .i64 1] := by unfold doV; rw [h]; rfl

def meetV (x y u v : Int) : Value := if spB x y && spB u v then (if meetB x y u v then .tuple #[.agg #[.int .i64 (max x u), .int .i64 (min y v)], .int .i64 0] else .tuple #[.agg #[.int .i64 0, .int .i64 0], .int .i64 4]) else .tuple #[.agg #[.int .i64 0, .int .i64 0], .int .i64 1]
theorem meetV_ok {x y u v : Int} (h1 : spB x y = true) (h2 : spB u v = true) (h3 : meetB x y u v = true) : meetV x y u v = .tuple #[.agg #[.int .i64 (max x u), .int .i64 (min y v)], .int .i64 0] := by unfold meetV; rw [h1, h2, h3]; rfl
theorem meetV_apart {x y u v : Int} (h1 : spB x y = true) (h2 : spB u v = true) (h3 : meetB x y u v = false) : meetV x y u v = .tuple #[.agg #[.int .i64 0, .int .i64 0], .int .i64 4] := by unfold meetV; rw [h1, h2, h3]; rfl
theorem meetV_bad {x y u v : Int} (h : (spB x y && spB u v) = false) : meetV x y u v = .tuple #[.agg #[.int .i64 0, .int .i64 0], .int .i64 1] := by unfold meetV; rw [h]; rfl
end
section
set_option linter.unusedVariables false
open Go.RowKit

/-- The world with two spans in boxes and a box for the result. -/
def boxes3 (w : World) (x y u v : Int) : World := (boxes w x y u v).alloc (.cells #[.int .i64 0, .int .i64 0] 25)
theorem boxes3_facts (w : World) (x y u v : Int) : Below w.heap.size w (boxes3 w x y u v) ∧ BoxAt (boxes3 w x y u v) w.heap.size x y ∧ BoxAt (boxes3 w x y u v) (w.heap.size + 1) u v ∧ ResAt (boxes3 w x y u v) (w.heap.size + 1 + 1) 0 0 := by
  refine ⟨(((Below.refl _ _).alloc (Nat.le_refl _) _).alloc (by simp) _).alloc (by simp; omega) _, ((BoxAt.new w x y _).alloc _).alloc _, ?_, ?_⟩
  · have h := (BoxAt.new (w.alloc (.cells #[.int .i64 x, .int .i64 y] 25)) u v 25).alloc (.cells #[.int .i64 0, .int .i64 0] 25)
    simpa [boxes3, boxes] using h
  · have h := ResAt.new (boxes w x y u v) 0 0 25
    have e : (boxes w x y u v).heap.size = w.heap.size + 1 + 1 := by simp [boxes]
    rw [e] at h
    exact h
theorem below_set2 {B : Nat} {w w' : World} (h : Below B w w') {g : Nat} (hg : B ≤ g) (x y : Value) : Below B w ((w'.setCell ⟨g, 0, none⟩ x).setCell ⟨g, 1, none⟩ y) := (h.setCell hg x).setCell hg y

end
section
end
end Go.Proofs.YthlilfdndpnbkaaGreatDoor
