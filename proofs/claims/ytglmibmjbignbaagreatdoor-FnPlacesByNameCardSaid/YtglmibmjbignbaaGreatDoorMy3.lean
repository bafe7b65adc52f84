/-
  The contracts of the functions that ask whether one span is valid, and of the laws' toSpan.
-/
import Derived.Test.YtglmibmjbignbaaGreatDoorMy1
import Derived.Test.YtglmibmjbignbaaGreatDoorMy2
import Derived.BigQuiet
import Derived.Deep.QuietTactic
import Derived.Handy
import Derived.Outline
namespace Go.Proofs.YtglmibmjbignbaaGreatDoor
section
set_option linter.unusedVariables false
open Go.RowKit

theorem spB_lo {x y : Int} (h : ¬ -3000 ≤ x) : spB x y = false := by unfold spB; rw [decide_eq_false h]; rfl
theorem spB_mid {x y : Int} (h : ¬ x ≤ y) : spB x y = false := by unfold spB; rw [decide_eq_false h, Bool.and_false]; rfl
theorem spB_hi {x y : Int} (h : ¬ y ≤ 3000) : spB x y = false := by unfold spB; rw [decide_eq_false h, Bool.and_false]

theorem cValid (x y : Int) (w : World) :
    Calls Tryz.prog 126 #[.agg #[.int .i64 x, .int .i64 y]] w fun e w' => e = .returned (.bool (spB x y)) ∧ Below w.heap.size w w' := by
  by_cases h1 : -3000 ≤ x
  · by_cases h2 : x ≤ y
    · by_cases h3 : y ≤ 3000
      · have HX := Lib.hid (spB_mk h1 h2 h3)
        go_enter Tryz.func126, Tryz.ntmps126
        go_wp2
        go_ret
        exact ⟨ret_bool HX.out.symm, (Below.refl _ _).alloc (Nat.le_refl _) _⟩
      · have HX := Lib.hid (spB_hi (x := x) h3)
        have hd : decide (y ≤ 3000) = false := decide_eq_false h3
        go_enter Tryz.func126, Tryz.ntmps126
        go_wp2
        go_ret
        exact ⟨ret_bool HX.out.symm, (Below.refl _ _).alloc (Nat.le_refl _) _⟩
    · have HX := Lib.hid (spB_mid h2)
      have hd : decide (x ≤ y) = false := decide_eq_false h2
      go_enter Tryz.func126, Tryz.ntmps126
      go_wp2
      go_ret
      exact ⟨ret_bool HX.out.symm, (Below.refl _ _).alloc (Nat.le_refl _) _⟩
  · have HX := Lib.hid (spB_lo (y := y) h1)
    have hd : decide (-3000 ≤ x) = false := decide_eq_false h1
    go_enter Tryz.func126, Tryz.ntmps126
    go_wp2
    go_ret
    exact ⟨ret_bool HX.out.symm, (Below.refl _ _).alloc (Nat.le_refl _) _⟩

theorem cYear (n : Int) (w : World) : Calls Tryz.prog 127 #[.int .i64 n] w fun e w' => e = .returned (.bool (decide (-3000 ≤ n) && decide (n ≤ 3000))) ∧ w = w' := by
  go_enter Tryz.func127, Tryz.ntmps127
  go_wp2_with fail
  refine (cIn_any _ _ _ _).mono ?_
  rintro e w' ⟨rfl, rfl⟩
  go_wp2_with fail
  go_ret
  exact ⟨rfl, rfl⟩
theorem cYear_yes (n : Int) (w : World) (h1 : -3000 ≤ n) (h2 : n ≤ 3000) : Calls Tryz.prog 127 #[.int .i64 n] w fun e w' => e = .returned (.bool true) ∧ w = w' :=
  (cYear n w).mono fun e w' ⟨he, hw⟩ => ⟨by rw [he]; simp [h1, h2], hw⟩
theorem cYear_no (n : Int) (w : World) (h : n < -3000 ∨ 3000 < n) : Calls Tryz.prog 127 #[.int .i64 n] w fun e w' => e = .returned (.bool false) ∧ w = w' :=
  (cYear n w).mono fun e w' ⟨he, hw⟩ => ⟨by rw [he]; refine ret_bool ?_; rcases h with h | h <;> simp <;> omega, hw⟩

theorem cIsSpan_spec (x y : Int) (w : World) :
    Calls Tryz.prog 84 #[.agg #[.int .i64 x, .int .i64 y]] w fun e w' => e = .returned (.bool (spB x y)) ∧ Below w.heap.size w w' := by
  by_cases h1 : -3000 ≤ x ∧ x ≤ 3000
  · by_cases h2 : -3000 ≤ y ∧ y ≤ 3000
    · by_cases h3 : x ≤ y
      · have HX := Lib.hid (spB_mk h1.1 h3 h2.2)
        have C1 := Lib.hid (fun W => cYear_yes x W h1.1 h1.2)
        have C2 := Lib.hid (fun W => cYear_yes y W h2.1 h2.2)
        clear h1 h2
        go_enter Tryz.func84, Tryz.ntmps84
        go_wp2_with fail
        refine (C1.out _).mono ?_
        rintro e w' ⟨rfl, rfl⟩
        go_wp2_with fail
        refine (C2.out _).mono ?_
        rintro e w' ⟨rfl, rfl⟩
        go_wp2_with fail
        go_ret
        exact ⟨ret_bool HX.out.symm, (Below.refl _ _).alloc (Nat.le_refl _) _⟩
      · have HX := Lib.hid (spB_mid h3)
        have C1 := Lib.hid (fun W => cYear_yes x W h1.1 h1.2)
        have C2 := Lib.hid (fun W => cYear_yes y W h2.1 h2.2)
        have hd : decide (x ≤ y) = false := decide_eq_false h3
        clear h1 h2
        go_enter Tryz.func84, Tryz.ntmps84
        go_wp2_with fail
        refine (C1.out _).mono ?_
        rintro e w' ⟨rfl, rfl⟩
        go_wp2_with fail
        refine (C2.out _).mono ?_
        rintro e w' ⟨rfl, rfl⟩
        go_wp2_with fail
        go_ret
        exact ⟨ret_bool HX.out.symm, (Below.refl _ _).alloc (Nat.le_refl _) _⟩
    · have HX : Hid (spB x y = false) := Lib.hid (by
        cases h : spB x y
        · rfl
        · have := spB_bd h; omega)
      have C1 := Lib.hid (fun W => cYear_yes x W h1.1 h1.2)
      have C2 := Lib.hid (fun W => cYear_no y W (by omega))
      clear h1 h2
      go_enter Tryz.func84, Tryz.ntmps84
      go_wp2_with fail
      refine (C1.out _).mono ?_
      rintro e w' ⟨rfl, rfl⟩
      go_wp2_with fail
      refine (C2.out _).mono ?_
      rintro e w' ⟨rfl, rfl⟩
      go_wp2_with fail
      go_ret
      exact ⟨ret_bool HX.out.symm, (Below.refl _ _).alloc (Nat.le_refl _) _⟩
  · have HX : Hid (spB x y = false) := Lib.hid (by
      cases h : spB x y
      · rfl
      · have := spB_bd h; omega)
    have C1 := Lib.hid (fun W => cYear_no x W (by omega))
    clear h1
    go_enter Tryz.func84, Tryz.ntmps84
    go_wp2_with (go_at_call 127; refine (C1.out _).mono ?_; rintro e w' ⟨rfl, rfl⟩)
    go_ret
    exact ⟨ret_bool HX.out.symm, (Below.refl _ _).alloc (Nat.le_refl _) _⟩

theorem cToSpan (x y : Int) (w : World) :
    Calls Tryz.prog 149 #[.agg #[.int .i64 x, .int .i64 y]] w fun e w' => e = .returned (.agg #[.int .i64 x, .int .i64 y]) ∧ Below w.heap.size w w' := by
  go_enter Tryz.func149, Tryz.ntmps149
  go_wp2
  exact bodyPost_ret (v := .agg #[.int .i64 x, .int .i64 y]) (by simp [results, Tryz.results149, go_sem]) rfl ⟨rfl, (((Below.refl _ _).alloc (Nat.le_refl _) _).alloc (by simp) _).alloc (by simp; omega) _⟩
end
section
set_option linter.unusedVariables false
open Go.RowKit

theorem cMeet (x y u v : Int) (w : World) :
    Calls Tryz.prog 125 #[.agg #[.int .i64 x, .int .i64 y], .agg #[.int .i64 u, .int .i64 v]] w fun e w' => e = .returned (.agg #[.int .i64 (max x u), .int .i64 (min y v)]) ∧ Below w.heap.size w w' := by
  go_enter Tryz.func125, Tryz.ntmps125
  go_wp2
  all_goals
    first | rw [Int.max_eq_right (a := x) (b := u) (by omega)] | rw [Int.max_eq_left (a := x) (b := u) (by omega)]
    first | rw [Int.min_eq_right (a := y) (b := v) (by omega)] | rw [Int.min_eq_left (a := y) (b := v) (by omega)]
    refine bodyPost_ret ?_ rfl ⟨rfl, (((Below.refl _ _).alloc (Nat.le_refl _) _).alloc (by simp) _).alloc (by simp; omega) _⟩
    simp [results, Tryz.results125, go_sem]

def meetB (x y u v : Int) : Bool := decide (x ≤ v) && decide (u ≤ y)
theorem meetB_yes {x y u v : Int} (h1 : x ≤ v) (h2 : u ≤ y) : meetB x y u v = true := by unfold meetB; simp [h1, h2]
theorem meetB_no {x y u v : Int} (h : v < x ∨ y < u) : meetB x y u v = false := by
  cases hh : meetB x y u v
  · rfl
  · unfold meetB at hh; simp at hh; omega
theorem meet_valid {x y u v : Int} (h1 : spB x y = true) (h2 : spB u v = true) : spB (max x u) (min y v) = meetB x y u v := by
  have a := spB_bd h1
  have b := spB_bd h2
  cases hm : meetB x y u v
  · cases hs : spB (max x u) (min y v)
    · rfl
    · have c := spB_bd hs
      rw [meetB_yes (by omega) (by omega)] at hm
      cases hm
  · unfold meetB at hm
    simp at hm
    exact spB_mk (by omega) (by omega) (by omega)

theorem cMeet_spec (x y u v : Int) (w : World) :
    Calls Tryz.prog 134 #[.agg #[.int .i64 x, .int .i64 y], .agg #[.int .i64 u, .int .i64 v]] w fun e w' => e = .returned (.bool (meetB x y u v)) ∧ Below w.heap.size w w' := by
  by_cases h1 : x ≤ v
  · by_cases h2 : u ≤ y
    · have HX := Lib.hid (meetB_yes h1 h2)
      go_enter Tryz.func134, Tryz.ntmps134
      go_wp2
      go_ret
      exact ⟨ret_bool HX.out.symm, ((Below.refl _ _).alloc (Nat.le_refl _) _).alloc (by simp) _⟩
    · have HX := Lib.hid (meetB_no (x := x) (v := v) (.inr (show y < u by omega)))
      have hd : decide (u ≤ y) = false := decide_eq_false h2
      go_enter Tryz.func134, Tryz.ntmps134
      go_wp2
      go_ret
      exact ⟨ret_bool HX.out.symm, ((Below.refl _ _).alloc (Nat.le_refl _) _).alloc (by simp) _⟩
  · have HX := Lib.hid (meetB_no (y := y) (u := u) (.inl (show v < x by omega)))
    have hd : decide (x ≤ v) = false := decide_eq_false h1
    go_enter Tryz.func134, Tryz.ntmps134
    go_wp2
    go_ret
    exact ⟨ret_bool HX.out.symm, ((Below.refl _ _).alloc (Nat.le_refl _) _).alloc (by simp) _⟩

theorem two_agg (x y : Int) : (Value.agg #[.int .i64 x, .int .i64 y]).cells = #[.int .i64 x, .int .i64 y] := rfl

end
section
set_option linter.unusedVariables false
open Go.RowKit

theorem bcell {W w1 : World} (hb : Below W.heap.size W w1) : (∀ b o, b < W.heap.size → w1.cell? ⟨b, o, none⟩ = W.cell? ⟨b, o, none⟩) ∧ (∀ b o, b < W.heap.size → w1.frozen? ⟨b, o, none⟩ = W.frozen? ⟨b, o, none⟩) :=
  ⟨fun b o h => hb.cell (p := ⟨b, o, none⟩) h, fun b o h => hb.frozen (p := ⟨b, o, none⟩) h⟩
theorem box_cell (w : World) (x y : Int) (t : TypeId) : (w.alloc (.cells #[.int .i64 x, .int .i64 y] t)).cell? ⟨w.heap.size, 0, none⟩ = some (.int .i64 x) ∧ (w.alloc (.cells #[.int .i64 x, .int .i64 y] t)).cell? ⟨w.heap.size, 1, none⟩ = some (.int .i64 y) :=
  ⟨by rw [World.cell?_alloc_at _ _ _ _ rfl]; rfl, by rw [World.cell?_alloc_at _ _ _ _ rfl]; rfl⟩

/-- The world with two spans in boxes. -/
def boxes (w : World) (x y u v : Int) : World := (w.alloc (.cells #[.int .i64 x, .int .i64 y] 26)).alloc (.cells #[.int .i64 u, .int .i64 v] 26)
def BoxAt (w : World) (B : Nat) (x y : Int) : Prop := B < w.heap.size ∧ w.cell? ⟨B, 0, none⟩ = some (.int .i64 x) ∧ w.cell? ⟨B, 1, none⟩ = some (.int .i64 y)
theorem BoxAt.below {w w' : World} {B : Nat} {x y : Int} (h : BoxAt w B x y) (hb : Below w.heap.size w w') : BoxAt w' B x y :=
  ⟨Nat.lt_of_lt_of_le h.1 hb.size, (hb.cell (p := ⟨B, 0, none⟩) h.1).trans h.2.1, (hb.cell (p := ⟨B, 1, none⟩) h.1).trans h.2.2⟩
theorem BoxAt.new (w : World) (x y : Int) (t : TypeId) : BoxAt (w.alloc (.cells #[.int .i64 x, .int .i64 y] t)) w.heap.size x y := ⟨by simp, (box_cell w x y t).1, (box_cell w x y t).2⟩
/-- A box that may be written. -/
def ResAt (w : World) (B : Nat) (x y : Int) : Prop := BoxAt w B x y ∧ w.frozen? ⟨B, 0, none⟩ = false ∧ w.frozen? ⟨B, 1, none⟩ = false
theorem ResAt.below {w w' : World} {B : Nat} {x y : Int} (h : ResAt w B x y) (hb : Below w.heap.size w w') : ResAt w' B x y :=
  ⟨h.1.below hb, (hb.frozen (p := ⟨B, 0, none⟩) h.1.1).trans h.2.1, (hb.frozen (p := ⟨B, 1, none⟩) h.1.1).trans h.2.2⟩
theorem ResAt.new (w : World) (x y : Int) (t : TypeId) : ResAt (w.alloc (.cells #[.int .i64 x, .int .i64 y] t)) w.heap.size x y :=
  ⟨BoxAt.new w x y t, by unfold World.frozen?; rw [heap_alloc_new]; simp, by unfold World.frozen?; rw [heap_alloc_new]; simp⟩
theorem below_alloc (w : World) (o : Obj) : Below w.heap.size w (w.alloc o) := (Below.refl _ _).alloc (Nat.le_refl _) _
theorem BoxAt.alloc {w : World} {B : Nat} {x y : Int} (h : BoxAt w B x y) (o : Obj) : BoxAt (w.alloc o) B x y := h.below (below_alloc w o)

def doV (x y u v : Int) : Value := if spB x y && spB u v then .tuple #[.bool (meetB x y u v), .int .i64 0] else .tuple #[.bool false, .int .i64 1]
theorem doV_ok {x y u v : Int} (h1 : spB x y = true) (h2 : spB u v = true) : doV x y u v = .tuple #[.bool (meetB x y u v), .int .i64 0] := by unfold doV; rw [h1, h2]; rfl
theorem doV_bad {x y u v : Int} (h : (spB x y && spB u v) = false) : doV x y u v = .tuple #[.bool false, .int .i64 1] := by unfold doV; rw [h]; rfl

def meetV (x y u v : Int) : Value := if spB x y && spB u v then (if meetB x y u v then .tuple #[.agg #[.int .i64 (max x u), .int .i64 (min y v)], .int .i64 0] else .tuple #[.agg #[.int .i64 0, .int .i64 0], .int .i64 4]) else .tuple #[.agg #[.int .i64 0, .int .i64 0], .int .i64 1]
theorem meetV_ok {x y u v : Int} (h1 : spB x y = true) (h2 : spB u v = true) (h3 : meetB x y u v = true) : meetV x y u v = .tuple #[.agg #[.int .i64 (max x u), .int .i64 (min y v)], .int .i64 0] := by unfold meetV; rw [h1, h2, h3]; rfl
theorem meetV_apart {x y u v : Int} (h1 : spB x y = true) (h2 : spB u v = true) (h3 : meetB x y u v = false) : meetV x y u v = .tuple #[.agg #[.int .i64 0, .int .i64 0], .int .i64 4] := by unfold meetV; rw [h1, h2, h3]; rfl
theorem meetV_bad {x y u v : Int} (h : (spB x y && spB u v) = false) : meetV x y u v = .tuple #[.agg #[.int .i64 0, .int .i64 0], .int .i64 1] := by unfold meetV; rw [h]; rfl
end
section
set_option linter.unusedVariables false
open Go.RowKit

/-- The world with two spans in boxes and a box for the result. -/
def boxes3 (w : World) (x y u v : Int) : World := (boxes w x y u v).alloc (.cells #[.int .i64 0, .int .i64 0] 26)
theorem boxes3_facts (w : World) (x y u v : Int) : Below w.heap.size w (boxes3 w x y u v) ∧ BoxAt (boxes3 w x y u v) w.heap.size x y ∧ BoxAt (boxes3 w x y u v) (w.heap.size + 1) u v ∧ ResAt (boxes3 w x y u v) (w.heap.size + 1 + 1) 0 0 := by
  refine ⟨(((Below.refl _ _).alloc (Nat.le_refl _) _).alloc (by simp) _).alloc (by simp; omega) _, ((BoxAt.new w x y _).alloc _).alloc _, ?_, ?_⟩
  · have h := (BoxAt.new (w.alloc (.cells #[.int .i64 x, .int .i64 y] 26)) u v 26).alloc (.cells #[.int .i64 0, .int .i64 0] 26)
    simpa [boxes3, boxes] using h
  · have h := ResAt.new (boxes w x y u v) 0 0 26
    have e : (boxes w x y u v).heap.size = w.heap.size + 1 + 1 := by simp [boxes]
    rw [e] at h
    exact h
theorem below_set2 {B : Nat} {w w' : World} (h : Below B w w') {g : Nat} (hg : B ≤ g) (x y : Value) : Below B w ((w'.setCell ⟨g, 0, none⟩ x).setCell ⟨g, 1, none⟩ y) := (h.setCell hg x).setCell hg y

end
section
end
section
set_option linter.unusedVariables false
open Go.RowKit

/-- A row of numbers between lo and hi at block P. -/
def NumRow (w : World) (P n : Nat) (lo hi : Int) : Prop := P < w.heap.size ∧ ∀ j : Nat, j < n → ∃ x : Int, lo ≤ x ∧ x ≤ hi ∧ w.cell? ⟨P, j, none⟩ = some (.int .i64 x)
theorem NumRow.kept {w w' : World} {P n B : Nat} {lo hi : Int} (h : NumRow w P n lo hi) (hg : w.grownBy w' (some B)) (hne : P ≠ B) : NumRow w' P n lo hi :=
  ⟨Nat.lt_of_lt_of_le h.1 hg.size, fun j hj => by
    obtain ⟨x, h0, h1, hc⟩ := h.2 j hj
    exact ⟨x, h0, h1, hg.cell hc (by simp; exact hne)⟩⟩
def PickPost (lo hi : Int) (w : World) (B len : Nat) (e : Ending) (w' : World) : Prop := ∃ r : Int, lo ≤ r ∧ r ≤ hi ∧ e = .returned (.int .i64 r) ∧ Src w' B len ∧ w.grownBy w' (some B)

set_option maxHeartbeats 1000000 in
theorem cPick (B len P n cap : Nat) (lo hi : Int) (w : World) (hlen : len ≤ 1048576) (hn : 0 < n) (hn2 : n ≤ 100) (hne : P ≠ B) (hr : NumRow w P n lo hi) (h : Src w B len) :
    Calls Tryz.prog 62 #[.pointer (some ⟨B, 0, none⟩), .slice (some ⟨P, 0, none⟩) n cap] w (PickPost lo hi w B len) := by
  have C := Lib.hid (cNext B len n w hlen (by omega) (by omega) h)
  have HR := Lib.hid hr
  clear h hr
  go_enter Tryz.func62, Tryz.ntmps62
  go_wp2_with fail
  refine C.out.mono ?_
  rintro e w1 ⟨r, hr0, hr1, rfl, hS, hg⟩
  have hr2 : r < n := by omega
  obtain ⟨k, rfl⟩ : ∃ k : Nat, r = k := ⟨r.toNat, by omega⟩
  obtain ⟨x, h0, h1, hc⟩ := (HR.out.kept hg hne).2 k (by omega)
  have HS := Lib.hid hS
  clear hr1 hS
  go_wp2_with fail
  go_ret
  exact ⟨x, h0, h1, rfl, HS.out, hg⟩

theorem rowLit (w : World) (vs : List Int) (lo hi : Int) (h : ∀ v ∈ vs, lo ≤ v ∧ v ≤ hi) (t : TypeId) : NumRow (w.alloc (.cells (vs.map (Value.int .i64)).toArray t)) w.heap.size vs.length lo hi := by
  refine ⟨by simp, fun j hj => ?_⟩
  rw [World.cell?_alloc_at _ _ _ _ rfl]
  have hx : vs[j]? = some vs[j] := List.getElem?_eq_getElem hj
  have hm := h _ (List.mem_of_getElem? hx)
  exact ⟨vs[j], hm.1, hm.2, by simp [hx]⟩
theorem ResAt.grownB {w w' : World} {P B : Nat} {x y : Int} (h : ResAt w P x y) (hg : w.grownBy w' (some B)) (hne : P ≠ B) : ResAt w' P x y := by
  have hb := hg.block P h.1.1 (fun e => hne (Option.some.inj e))
  exact ⟨⟨Nat.lt_of_lt_of_le h.1.1 hg.size, (World.cell?_of_block (w := w) (a := ⟨P, 0, none⟩) hb).trans h.1.2.1, (World.cell?_of_block (w := w) (a := ⟨P, 1, none⟩) hb).trans h.1.2.2⟩, (World.frozen?_of_block (w := w) (a := ⟨P, 0, none⟩) hb).trans h.2.1, (World.frozen?_of_block (w := w) (a := ⟨P, 1, none⟩) hb).trans h.2.2⟩
theorem grown_set2 {w w' : World} {B g : Nat} (h : w.grownBy w' (some B)) (hg : w.heap.size ≤ g) (x y : Value) : w.grownBy ((w'.setCell ⟨g, 0, none⟩ x).setCell ⟨g, 1, none⟩ y) (some B) :=
  ⟨h.os, h.tape, h.output, (by simp; exact h.size), fun k hk hne => by
    rw [Below.heap_setCell _ _ _ k (by show k ≠ g; omega), Below.heap_setCell _ _ _ k (by show k ≠ g; omega)]
    exact h.block k hk hne⟩
theorem heap_set2 (w : World) (g k : Nat) (x y : Value) (h : k ≠ g) : ((w.setCell ⟨g, 0, none⟩ x).setCell ⟨g, 1, none⟩ y).heap[k]? = w.heap[k]? := by
  rw [Below.heap_setCell _ _ _ k h, Below.heap_setCell _ _ _ k h]
theorem Src.set2 {w : World} {B len g : Nat} (h : Src w B len) (hB : B < g) (x y : Value) : Src ((w.setCell ⟨g, 0, none⟩ x).setCell ⟨g, 1, none⟩ y) B len := by
  obtain ⟨A, cap, a, s, hT, h1, h2, h3, h4, h5⟩ := h
  refine ⟨A, cap, a, s, (heap_set2 w g B x y (by omega)).trans hT, h1, h2, h3, h4, fun hp => ?_⟩
  obtain ⟨b, o, hA, hlt, hbl, hc⟩ := h5 hp
  refine ⟨b, o, hA, hlt, by simpa using hbl, fun j hj => ?_⟩
  obtain ⟨z, z0, z1, hz⟩ := hc j hj
  exact ⟨z, z0, z1, (World.cell?_of_block (w := w) (a := ⟨b, o + j, none⟩) (heap_set2 w g b x y (by omega))).trans hz⟩
theorem srcAlloc {w : World} {B len : Nat} (h : Src w B len) (o : Obj) : Src (w.alloc o) B len := h.alloc o
/-- A drawn span: both numbers are small. -/
def SpanPost (m : Int) (w : World) (B len : Nat) (e : Ending) (w' : World) : Prop := ∃ x y : Int, -m ≤ x ∧ x ≤ m ∧ -m ≤ y ∧ y ≤ m ∧ e = .returned (.agg #[.int .i64 x, .int .i64 y]) ∧ Src w' B len ∧ w.grownBy w' (some B)

set_option maxHeartbeats 2000000 in
set_option maxRecDepth 100000 in
theorem cGood2 (B len : Nat) (w : World) (hlen : len ≤ 1048576) (hB : B < w.heap.size) (h : Src w B len) :
    Calls Tryz.prog 155 #[.pointer (some ⟨B, 0, none⟩)] w (SpanPost 3000 w B len) := by
  have K0 := ResAt.new w 0 0 26
  have hS0 := srcAlloc h (.cells #[.int .i64 0, .int .i64 0] 26)
  have C0 := Lib.hid (cNext B len 1000 _ hlen (by omega) (by omega) hS0)
  have G0 : w.grownBy (w.alloc (.cells #[.int .i64 0, .int .i64 0] 26)) (some B) := World.grownBy_alloc _ _ _
  have hq0 : w.heap.size < (w.alloc (.cells #[.int .i64 0, .int .i64 0] 26)).heap.size := by simp
  clear h hS0
  go_enter Tryz.func155, Tryz.ntmps155
  go_wp2_with fail
  refine C0.out.mono ?_
  rintro e w1 ⟨r, hr0, hr1, rfl, hS1, g1⟩
  have hr2 : r < 1000 := by omega
  have G1 := G0.trans g1
  have C1 := Lib.hid (cNext B len 20 w1 hlen (by omega) (by omega) hS1)
  clear hS1 hr1
  go_wp2_with fail
  refine C1.out.mono ?_
  rintro e w2 ⟨p, hp0, hp1, rfl, hS2, g2⟩
  have hp2 : p < 20 := by omega
  have G2 := G1.trans g2
  have C2 := Lib.hid (cNext B len 300 w2 hlen (by omega) (by omega) hS2)
  clear hS2 hp1
  go_wp2_with fail
  refine C2.out.mono ?_
  rintro e w3 ⟨q, hqq, hq1, rfl, hS3, g3⟩
  have hq2 : q < 300 := by omega
  have G3 := G2.trans g3
  have hlt3 : B < w3.heap.size := Nat.lt_of_lt_of_le hB G3.size
  have hR := rowLit w3 [0, p, q, 2000] 0 2000 (by intro v hv; simp at hv; omega) 2
  have hS4 := srcAlloc hS3 (.cells (([0, p, q, 2000] : List Int).map (Value.int .i64)).toArray 2)
  have C3 := Lib.hid (cPick B len w3.heap.size 4 4 0 2000 _ hlen (by omega) (by omega) (by omega) hR hS4)
  have G4 : w.grownBy (w3.alloc (.cells (([0, p, q, 2000] : List Int).map (Value.int .i64)).toArray 2)) (some B) := G3.trans (World.grownBy_alloc _ _ _)
  clear hS3 hS4 hR hq1
  go_wp2_with fail
  refine C3.out.mono ?_
  rintro e w4 ⟨z, hz0, hz1, rfl, hS5, g5⟩
  have G5 := G4.trans g5
  have hne : w.heap.size ≠ B := by omega
  have K5 := ((((K0.grownB g1 hne).grownB g2 hne).grownB g3 hne).grownB (World.grownBy_alloc _ _ _) hne).grownB g5 hne
  obtain ⟨⟨l5, a0, a1⟩, f0, f1⟩ := K5
  have HS5 := Lib.hid hS5
  clear hS5
  by_cases hm : 1000 + r + z < 3000
  · have z1 : decide (1000 + r + z < 3000) = true := decide_eq_true hm
    go_wp2_with fail
    refine bodyPost_ret ?_ rfl ⟨1000 + r, 1000 + r + z, by omega, by omega, by omega, by omega, rfl, HS5.out.set2 (by omega) _ _, grown_set2 G5 (Nat.le_refl _) _ _⟩
    simp [results, Tryz.results155, go_sem, a0, a1]
  · have z1 : decide (1000 + r + z < 3000) = false := decide_eq_false hm
    go_wp2_with fail
    refine bodyPost_ret ?_ rfl ⟨1000 + r, 3000, by omega, by omega, by omega, by omega, rfl, HS5.out.set2 (by omega) _ _, grown_set2 G5 (Nat.le_refl _) _ _⟩
    simp [results, Tryz.results155, go_sem, a0, a1]
theorem heap_set1 (w : World) (g i k : Nat) (x : Value) (h : k ≠ g) : (w.setCell ⟨g, i, none⟩ x).heap[k]? = w.heap[k]? := Below.heap_setCell _ _ _ k h
theorem ResAt.other {w : World} {P g i : Nat} {x y : Int} {u : Value} (h : ResAt w P x y) (hne : P ≠ g) : ResAt (w.setCell ⟨g, i, none⟩ u) P x y := by
  have hb := heap_set1 w g i P u hne
  exact ⟨⟨by simpa using h.1.1, (World.cell?_of_block (w := w) (a := ⟨P, 0, none⟩) hb).trans h.1.2.1, (World.cell?_of_block (w := w) (a := ⟨P, 1, none⟩) hb).trans h.1.2.2⟩, (World.frozen?_of_block (w := w) (a := ⟨P, 0, none⟩) hb).trans h.2.1, (World.frozen?_of_block (w := w) (a := ⟨P, 1, none⟩) hb).trans h.2.2⟩
theorem BoxAt.set_0 {w : World} {P : Nat} {x y : Int} (h : BoxAt w P x y) (u : Int) : BoxAt (w.setCell ⟨P, 0, none⟩ (.int .i64 u)) P u y := by
  refine ⟨by simpa using h.1, World.cell?_setCell_same' _ _ _ (by rw [h.2.1]; rfl), ?_⟩
  rw [World.cell?_setCell_other _ _ _ _ (by intro e; injection e; omega)]; exact h.2.2
theorem BoxAt.set_1 {w : World} {P : Nat} {x y : Int} (h : BoxAt w P x y) (u : Int) : BoxAt (w.setCell ⟨P, 1, none⟩ (.int .i64 u)) P x u := by
  refine ⟨by simpa using h.1, ?_, World.cell?_setCell_same' _ _ _ (by rw [h.2.2]; rfl)⟩
  rw [World.cell?_setCell_other _ _ _ _ (by intro e; injection e; omega)]; exact h.2.1
theorem Src.set1 {w : World} {B len g i : Nat} (h : Src w B len) (hB : B < g) (x : Value) : Src (w.setCell ⟨g, i, none⟩ x) B len := by
  obtain ⟨A, cap, a, s, hT, h1, h2, h3, h4, h5⟩ := h
  refine ⟨A, cap, a, s, (heap_set1 w g i B x (by omega)).trans hT, h1, h2, h3, h4, fun hp => ?_⟩
  obtain ⟨b, o, hA, hlt, hbl, hc⟩ := h5 hp
  refine ⟨b, o, hA, hlt, by simpa using hbl, fun j hj => ?_⟩
  obtain ⟨z, z0, z1, hz⟩ := hc j hj
  exact ⟨z, z0, z1, (World.cell?_of_block (w := w) (a := ⟨b, o + j, none⟩) (heap_set1 w g i b x (by omega))).trans hz⟩
theorem grown_set1 {w w' : World} {B g i : Nat} (h : w.grownBy w' (some B)) (hg : w.heap.size ≤ g) (x : Value) : w.grownBy (w'.setCell ⟨g, i, none⟩ x) (some B) :=
  ⟨h.os, h.tape, h.output, (by simp; exact h.size), fun k hk hne => by
    rw [Below.heap_setCell _ _ _ k (by show k ≠ g; omega)]
    exact h.block k hk hne⟩

set_option maxHeartbeats 2000000 in
set_option maxRecDepth 100000 in
theorem cDraw2 (B len : Nat) (w : World) (hlen : len ≤ 1048576) (hB : B < w.heap.size) (h : Src w B len) :
    Calls Tryz.prog 115 #[.pointer (some ⟨B, 0, none⟩)] w (SpanPost 3001 w B len) := by
  have K0 := ResAt.new w 0 0 26
  have hS0 := srcAlloc h (.cells #[.int .i64 0, .int .i64 0] 26)
  have hq0 : w.heap.size < (w.alloc (.cells #[.int .i64 0, .int .i64 0] 26)).heap.size := by simp
  have C0 := Lib.hid (cGood2 B len _ hlen (Nat.lt_trans hB hq0) hS0)
  have G0 : w.grownBy (w.alloc (.cells #[.int .i64 0, .int .i64 0] 26)) (some B) := World.grownBy_alloc _ _ _
  clear h hS0
  go_enter Tryz.func115, Tryz.ntmps115
  go_wp2_with fail
  refine C0.out.mono ?_
  rintro e w1 ⟨x, y, hx0, hx1, hy0, hy1, rfl, hS1, g1⟩
  have hne : w.heap.size ≠ B := by omega
  have hl1 : w.heap.size < w1.heap.size := Nat.lt_of_lt_of_le hq0 g1.size
  have G1 := (G0.trans g1).trans (World.grownBy_alloc w1 (.cells #[.int .i64 x, .int .i64 y] 26) _)
  have K1 := (K0.grownB g1 hne).grownB (World.grownBy_alloc w1 (.cells #[.int .i64 x, .int .i64 y] 26) _) hne
  have Q1 := ResAt.new w1 x y 26
  have hS2 := srcAlloc hS1 (.cells #[.int .i64 x, .int .i64 y] 26)
  have C1 := Lib.hid (cNext B len 20 _ hlen (by omega) (by omega) hS2)
  have hne1 : w1.heap.size ≠ B := by omega
  clear K0 hS1 hS2
  go_wp2_with fail
  refine C1.out.mono ?_
  rintro e w2 ⟨r, hr0, hr1, rfl, hS3, g2⟩
  have G2 := G1.trans g2
  have K2 := K1.grownB g2 hne
  have Q2 := Q1.grownB g2 hne1
  have hl2 : w1.heap.size < w2.heap.size := Nat.lt_of_lt_of_le (by simp) g2.size
  have hneP : w.heap.size ≠ w1.heap.size := by omega
  obtain ⟨⟨lq, q0, q1⟩, qf0, qf1⟩ := id Q2
  clear K1 Q1 hr1
  have HS3 := Lib.hid hS3
  clear hS3
  by_cases hc0 : r = 0
  · have z1 : (r == 0) = true := by simp [hc0]
    have T := Q2.1.set_1 (x - 1)
    have S4 := HS3.out.set1 (i := 1) (g := w1.heap.size) (by omega) (.int .i64 (x - 1))
    have G4 := grown_set1 (i := 1) G2 (g := w1.heap.size) (by omega) (.int .i64 (x - 1))
    obtain ⟨lt, t0, t1⟩ := id T
    obtain ⟨⟨l3, a0, a1⟩, f0, f1⟩ := K2.other (i := 1) (u := .int .i64 (x - 1)) hneP
    have HS4 := Lib.hid S4
    clear S4 hc0
    go_wp2_with fail
    refine bodyPost_ret ?_ rfl ⟨x, x - 1, by omega, by omega, by omega, by omega, rfl, HS4.out.set2 (by omega) _ _, grown_set2 G4 (Nat.le_refl _) _ _⟩
    simp [results, Tryz.results115, go_sem, a0, a1]
  · have z1 : (r == 0) = false := by rw [beq_eq_false_iff_ne]; exact hc0
    clear hc0
    by_cases hc1 : r = 1
    · have z2 : (r == 1) = true := by simp [hc1]
      have hR := rowLit w2 [-3000, -3001, 3001] (-3001) 3001 (by intro v hv; simp at hv; omega) 2
      have hS4 := srcAlloc HS3.out (.cells (([-3000, -3001, 3001] : List Int).map (Value.int .i64)).toArray 2)
      have C3 := Lib.hid (cPick B len w2.heap.size 3 3 (-3001) 3001 _ hlen (by omega) (by omega) (by omega) hR hS4)
      have ga := World.grownBy_alloc w2 (.cells (([-3000, -3001, 3001] : List Int).map (Value.int .i64)).toArray 2) (some B)
      clear hR hS4 hc1
      go_wp2_with fail
      refine C3.out.mono ?_
      rintro e w3 ⟨v, hv0, hv1, rfl, hS5, g5⟩
      have G5 := (G2.trans ga).trans g5
      have Q5 := (Q2.grownB ga hne1).grownB g5 hne1
      have K5 := (K2.grownB ga hne).grownB g5 hne
      obtain ⟨⟨lu, u0, u1⟩, uf0, uf1⟩ := id Q5
      have T := Q5.1.set_0 v
      have S4 := hS5.set1 (i := 0) (g := w1.heap.size) (by omega) (.int .i64 v)
      have G4 := grown_set1 (i := 0) G5 (g := w1.heap.size) (by omega) (.int .i64 v)
      obtain ⟨lt, t0, t1⟩ := id T
      obtain ⟨⟨l3, a0, a1⟩, f0, f1⟩ := K5.other (i := 0) (u := .int .i64 v) hneP
      have HS4 := Lib.hid S4
      clear S4 hS5 ga
      go_wp2_with fail
      refine bodyPost_ret ?_ rfl ⟨v, y, by omega, by omega, by omega, by omega, rfl, HS4.out.set2 (by omega) _ _, grown_set2 G4 (Nat.le_refl _) _ _⟩
      simp [results, Tryz.results115, go_sem, a0, a1]
    · have z2 : (r == 1) = false := by rw [beq_eq_false_iff_ne]; exact hc1
      clear hc1
      by_cases hc2 : r = 2
      · have z3 : (r == 2) = true := by simp [hc2]
        have hR := rowLit w2 [3000, 3001] 3000 3001 (by intro v hv; simp at hv; omega) 2
        have hS4 := srcAlloc HS3.out (.cells (([3000, 3001] : List Int).map (Value.int .i64)).toArray 2)
        have C3 := Lib.hid (cPick B len w2.heap.size 2 2 3000 3001 _ hlen (by omega) (by omega) (by omega) hR hS4)
        have ga := World.grownBy_alloc w2 (.cells (([3000, 3001] : List Int).map (Value.int .i64)).toArray 2) (some B)
        clear hR hS4 hc2
        go_wp2_with fail
        refine C3.out.mono ?_
        rintro e w3 ⟨v, hv0, hv1, rfl, hS5, g5⟩
        have G5 := (G2.trans ga).trans g5
        have Q5 := (Q2.grownB ga hne1).grownB g5 hne1
        have K5 := (K2.grownB ga hne).grownB g5 hne
        obtain ⟨⟨lu, u0, u1⟩, uf0, uf1⟩ := id Q5
        have T := Q5.1.set_1 v
        have S4 := hS5.set1 (i := 1) (g := w1.heap.size) (by omega) (.int .i64 v)
        have G4 := grown_set1 (i := 1) G5 (g := w1.heap.size) (by omega) (.int .i64 v)
        obtain ⟨lt, t0, t1⟩ := id T
        obtain ⟨⟨l3, a0, a1⟩, f0, f1⟩ := K5.other (i := 1) (u := .int .i64 v) hneP
        have HS4 := Lib.hid S4
        clear S4 hS5 ga
        go_wp2_with fail
        refine bodyPost_ret ?_ rfl ⟨x, v, by omega, by omega, by omega, by omega, rfl, HS4.out.set2 (by omega) _ _, grown_set2 G4 (Nat.le_refl _) _ _⟩
        simp [results, Tryz.results115, go_sem, a0, a1]
      · have z3 : (r == 2) = false := by rw [beq_eq_false_iff_ne]; exact hc2
        obtain ⟨⟨l3, a0, a1⟩, f0, f1⟩ := id K2
        clear hc2
        go_wp2_with fail
        refine bodyPost_ret ?_ rfl ⟨x, y, by omega, by omega, by omega, by omega, rfl, HS3.out.set2 (by omega) _ _, grown_set2 G2 (Nat.le_refl _) _ _⟩
        simp [results, Tryz.results115, go_sem, a0, a1]
end
end Go.Proofs.YtglmibmjbignbaaGreatDoor
