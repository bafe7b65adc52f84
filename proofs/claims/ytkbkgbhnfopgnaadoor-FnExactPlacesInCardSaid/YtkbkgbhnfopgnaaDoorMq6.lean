/-
  The contracts of the functions that ask whether one span is valid, and of the laws' toSpan.
-/
import Derived.Test.YtkbkgbhnfopgnaaDoorMq2
import Derived.Test.YtkbkgbhnfopgnaaDoorSpanPlain
import Derived.BigQuiet
import Derived.Deep.QuietTactic
import Derived.Handy
import Derived.Outline
namespace Go.Proofs.YtkbkgbhnfopgnaaDoor
section
set_option linter.unusedVariables false
open Go.RowKit

theorem spB_lo {x y : Int} (h : ¬ -3000 ≤ x) : spB x y = false := by unfold spB; rw [decide_eq_false h]; rfl
theorem spB_mid {x y : Int} (h : ¬ x ≤ y) : spB x y = false := by unfold spB; rw [decide_eq_false h, Bool.and_false]; rfl
theorem spB_hi {x y : Int} (h : ¬ y ≤ 3000) : spB x y = false := by unfold spB; rw [decide_eq_false h, Bool.and_false]

theorem cValid (x y : Int) (w : World) :
    Calls Tryd.prog 69 #[.agg #[.int .i64 x, .int .i64 y]] w fun e w' => e = .returned (.bool (spB x y)) ∧ Below w.heap.size w w' := by
  by_cases h1 : -3000 ≤ x
  · by_cases h2 : x ≤ y
    · by_cases h3 : y ≤ 3000
      · have HX := Lib.hid (spB_mk h1 h2 h3)
        go_enter Tryd.func69, Tryd.ntmps69
        go_wp2
        go_ret
        exact ⟨ret_bool HX.out.symm, (Below.refl _ _).alloc (Nat.le_refl _) _⟩
      · have HX := Lib.hid (spB_hi (x := x) h3)
        have hd : decide (y ≤ 3000) = false := decide_eq_false h3
        go_enter Tryd.func69, Tryd.ntmps69
        go_wp2
        go_ret
        exact ⟨ret_bool HX.out.symm, (Below.refl _ _).alloc (Nat.le_refl _) _⟩
    · have HX := Lib.hid (spB_mid h2)
      have hd : decide (x ≤ y) = false := decide_eq_false h2
      go_enter Tryd.func69, Tryd.ntmps69
      go_wp2
      go_ret
      exact ⟨ret_bool HX.out.symm, (Below.refl _ _).alloc (Nat.le_refl _) _⟩
  · have HX := Lib.hid (spB_lo (y := y) h1)
    have hd : decide (-3000 ≤ x) = false := decide_eq_false h1
    go_enter Tryd.func69, Tryd.ntmps69
    go_wp2
    go_ret
    exact ⟨ret_bool HX.out.symm, (Below.refl _ _).alloc (Nat.le_refl _) _⟩

theorem cYear (n : Int) (w : World) : Calls Tryd.prog 65 #[.int .i64 n] w fun e w' => e = .returned (.bool (decide (-3000 ≤ n) && decide (n ≤ 3000))) ∧ w = w' := by
  go_enter Tryd.func65, Tryd.ntmps65
  go_wp2_with fail
  refine (cIn_any _ _ _ _).mono ?_
  rintro e w' ⟨rfl, rfl⟩
  go_wp2_with fail
  go_ret
  exact ⟨rfl, rfl⟩
theorem cYear_yes (n : Int) (w : World) (h1 : -3000 ≤ n) (h2 : n ≤ 3000) : Calls Tryd.prog 65 #[.int .i64 n] w fun e w' => e = .returned (.bool true) ∧ w = w' :=
  (cYear n w).mono fun e w' ⟨he, hw⟩ => ⟨by rw [he]; simp [h1, h2], hw⟩
theorem cYear_no (n : Int) (w : World) (h : n < -3000 ∨ 3000 < n) : Calls Tryd.prog 65 #[.int .i64 n] w fun e w' => e = .returned (.bool false) ∧ w = w' :=
  (cYear n w).mono fun e w' ⟨he, hw⟩ => ⟨by rw [he]; refine ret_bool ?_; rcases h with h | h <;> simp <;> omega, hw⟩

theorem cIsSpan_spec (x y : Int) (w : World) :
    Calls Tryd.prog 36 #[.agg #[.int .i64 x, .int .i64 y]] w fun e w' => e = .returned (.bool (spB x y)) ∧ Below w.heap.size w w' := by
  by_cases h1 : -3000 ≤ x ∧ x ≤ 3000
  · by_cases h2 : -3000 ≤ y ∧ y ≤ 3000
    · by_cases h3 : x ≤ y
      · have HX := Lib.hid (spB_mk h1.1 h3 h2.2)
        have C1 := Lib.hid (fun W => cYear_yes x W h1.1 h1.2)
        have C2 := Lib.hid (fun W => cYear_yes y W h2.1 h2.2)
        clear h1 h2
        go_enter Tryd.func36, Tryd.ntmps36
        go_wp2_with fail
        refine (C1.out _).mono ?_
        rintro e w' ⟨rfl, rfl⟩
        go_wp2_with fail
        refine (C2.out _).mono ?_
        rintro e w' ⟨rfl, rfl⟩
        go_wp2_with fail
        go_ret
        exact ⟨ret_bool HX.out.symm, (Below.refl _ _).alloc (Nat.le_refl _) _⟩
      · have HX := Lib.hid (spB_mid h3)
        have C1 := Lib.hid (fun W => cYear_yes x W h1.1 h1.2)
        have C2 := Lib.hid (fun W => cYear_yes y W h2.1 h2.2)
        have hd : decide (x ≤ y) = false := decide_eq_false h3
        clear h1 h2
        go_enter Tryd.func36, Tryd.ntmps36
        go_wp2_with fail
        refine (C1.out _).mono ?_
        rintro e w' ⟨rfl, rfl⟩
        go_wp2_with fail
        refine (C2.out _).mono ?_
        rintro e w' ⟨rfl, rfl⟩
        go_wp2_with fail
        go_ret
        exact ⟨ret_bool HX.out.symm, (Below.refl _ _).alloc (Nat.le_refl _) _⟩
    · have HX : Hid (spB x y = false) := Lib.hid (by
        cases h : spB x y
        · rfl
        · have := spB_bd h; omega)
      have C1 := Lib.hid (fun W => cYear_yes x W h1.1 h1.2)
      have C2 := Lib.hid (fun W => cYear_no y W (by omega))
      clear h1 h2
      go_enter Tryd.func36, Tryd.ntmps36
      go_wp2_with fail
      refine (C1.out _).mono ?_
      rintro e w' ⟨rfl, rfl⟩
      go_wp2_with fail
      refine (C2.out _).mono ?_
      rintro e w' ⟨rfl, rfl⟩
      go_wp2_with fail
      go_ret
      exact ⟨ret_bool HX.out.symm, (Below.refl _ _).alloc (Nat.le_refl _) _⟩
  · have HX : Hid (spB x y = false) := Lib.hid (by
      cases h : spB x y
      · rfl
      · have := spB_bd h; omega)
    have C1 := Lib.hid (fun W => cYear_no x W (by omega))
    clear h1
    go_enter Tryd.func36, Tryd.ntmps36
    go_wp2_with (go_at_call 65; refine (C1.out _).mono ?_; rintro e w' ⟨rfl, rfl⟩)
    go_ret
    exact ⟨ret_bool HX.out.symm, (Below.refl _ _).alloc (Nat.le_refl _) _⟩

theorem cToSpan (x y : Int) (w : World) :
    Calls Tryd.prog 38 #[.agg #[.int .i64 x, .int .i64 y]] w fun e w' => e = .returned (.agg #[.int .i64 x, .int .i64 y]) ∧ Below w.heap.size w w' := by
  go_enter Tryd.func38, Tryd.ntmps38
  go_wp2
  exact bodyPost_ret (v := .agg #[.int .i64 x, .int .i64 y]) (by simp [results, Tryd.results38, go_sem]) rfl ⟨rfl, (((Below.refl _ _).alloc (Nat.le_refl _) _).alloc (by simp) _).alloc (by simp; omega) _⟩
end
section
set_option linter.unusedVariables false
open Go.RowKit

theorem cMeet (x y u v : Int) (w : World) :
    Calls Tryd.prog 81 #[.agg #[.int .i64 x, .int .i64 y], .agg #[.int .i64 u, .int .i64 v]] w fun e w' => e = .returned (.agg #[.int .i64 (max x u), .int .i64 (min y v)]) ∧ Below w.heap.size w w' := by
  go_enter Tryd.func81, Tryd.ntmps81
  go_wp2
  all_goals
    first | rw [Int.max_eq_right (a := x) (b := u) (by omega)] | rw [Int.max_eq_left (a := x) (b := u) (by omega)]
    first | rw [Int.min_eq_right (a := y) (b := v) (by omega)] | rw [Int.min_eq_left (a := y) (b := v) (by omega)]
    refine bodyPost_ret ?_ rfl ⟨rfl, (((Below.refl _ _).alloc (Nat.le_refl _) _).alloc (by simp) _).alloc (by simp; omega) _⟩
    simp [results, Tryd.results81, go_sem]

def meetB (x y u v : Int) : Bool := decide (x ≤ v) && decide (u ≤ y)
theorem meetB_yes {x y u v : Int} (h1 : x ≤ v) (h2 : u ≤ y) : meetB x y u v = true := by unfold meetB; simp [h1, h2]
theorem meetB_no {x y u v : Int} (h : v < x ∨ y < u) : meetB x y u v = false := by
  cases hh : meetB x y u v
  · rfl
  · unfold meetB at hh; simp at hh; omega
theorem meet_valid {x y u v : Int} (h1 : spB x y = true) (h2 : spB u v = true) : spB (max x u) (min y v) = meetB x y u v := by
  have a := spB_bd h1
  have b := spB_bd h2
  cases hm : meetB x y u v
  · cases hs : spB (max x u) (min y v)
    · rfl
    · have c := spB_bd hs
      rw [meetB_yes (by omega) (by omega)] at hm
      cases hm
  · unfold meetB at hm
    simp at hm
    exact spB_mk (by omega) (by omega) (by omega)

theorem cMeet_spec (x y u v : Int) (w : World) :
    Calls Tryd.prog 67 #[.agg #[.int .i64 x, .int .i64 y], .agg #[.int .i64 u, .int .i64 v]] w fun e w' => e = .returned (.bool (meetB x y u v)) ∧ Below w.heap.size w w' := by
  by_cases h1 : x ≤ v
  · by_cases h2 : u ≤ y
    · have HX := Lib.hid (meetB_yes h1 h2)
      go_enter Tryd.func67, Tryd.ntmps67
      go_wp2
      go_ret
      exact ⟨ret_bool HX.out.symm, ((Below.refl _ _).alloc (Nat.le_refl _) _).alloc (by simp) _⟩
    · have HX := Lib.hid (meetB_no (x := x) (v := v) (.inr (show y < u by omega)))
      have hd : decide (u ≤ y) = false := decide_eq_false h2
      go_enter Tryd.func67, Tryd.ntmps67
      go_wp2
      go_ret
      exact ⟨ret_bool HX.out.symm, ((Below.refl _ _).alloc (Nat.le_refl _) _).alloc (by simp) _⟩
  · have HX := Lib.hid (meetB_no (y := y) (u := u) (.inl (show v < x by omega)))
    have hd : decide (x ≤ v) = false := decide_eq_false h1
    go_enter Tryd.func67, Tryd.ntmps67
    go_wp2
    go_ret
    exact ⟨ret_bool HX.out.symm, ((Below.refl _ _).alloc (Nat.le_refl _) _).alloc (by simp) _⟩

theorem two_agg (x y : Int) : (Value.agg #[.int .i64 x, .int .i64 y]).cells = #[.int .i64 x, .int .i64 y] := rfl

end
end Go.Proofs.YtkbkgbhnfopgnaaDoor
