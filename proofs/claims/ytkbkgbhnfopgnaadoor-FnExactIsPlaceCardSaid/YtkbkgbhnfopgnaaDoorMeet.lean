/-
  The contracts of Span.meet, DoMeet and MeetOf of both packages.
-/
import Derived.Test.YtkbkgbhnfopgnaaDoorSpan
import Derived.Outline
namespace Go.Proofs.YtkbkgbhnfopgnaaDoor
set_option linter.unusedVariables false
open Go.RowKit

theorem cMeet (x y u v : Int) (w : World) :
    Calls Tryd.prog 81 #[.agg #[.int .i64 x, .int .i64 y], .agg #[.int .i64 u, .int .i64 v]] w fun e w' => e = .returned (.agg #[.int .i64 (max x u), .int .i64 (min y v)]) ∧ Below w.heap.size w w' := by
  go_enter Tryd.func81, Tryd.ntmps81
  go_wp2
  all_goals
    first | rw [Int.max_eq_right (a := x) (b := u) (by omega)] | rw [Int.max_eq_left (a := x) (b := u) (by omega)]
    first | rw [Int.min_eq_right (a := y) (b := v) (by omega)] | rw [Int.min_eq_left (a := y) (b := v) (by omega)]
    refine bodyPost_ret ?_ rfl ⟨rfl, (((Below.refl _ _).alloc (Nat.le_refl _) _).alloc (by simp) _).alloc (by simp; omega) _⟩
    simp [results, Tryd.results81, go_sem]

def meetB (x y u v : Int) : Bool := decide (x ≤ v) && decide (u ≤ y)
theorem meetB_yes {x y u v : Int} (h1 : x ≤ v) (h2 : u ≤ y) : meetB x y u v = true := by unfold meetB; simp [h1, h2]
theorem meetB_no {x y u v : Int} (h : v < x ∨ y < u) : meetB x y u v = false := by
  cases hh : meetB x y u v
  · rfl
  · unfold meetB at hh; simp at hh; omega
theorem meet_valid {x y u v : Int} (h1 : spB x y = true) (h2 : spB u v = true) : spB (max x u) (min y v) = meetB x y u v := by
  have a := spB_bd h1
  have b := spB_bd h2
  cases hm : meetB x y u v
  · cases hs : spB (max x u) (min y v)
    · rfl
    · have c := spB_bd hs
      rw [meetB_yes (by omega) (by omega)] at hm
      cases hm
  · unfold meetB at hm
    simp at hm
    exact spB_mk (by omega) (by omega) (by omega)

theorem cMeet_spec (x y u v : Int) (w : World) :
    Calls Tryd.prog 67 #[.agg #[.int .i64 x, .int .i64 y], .agg #[.int .i64 u, .int .i64 v]] w fun e w' => e = .returned (.bool (meetB x y u v)) ∧ Below w.heap.size w w' := by
  by_cases h1 : x ≤ v
  · by_cases h2 : u ≤ y
    · have HX := Lib.hid (meetB_yes h1 h2)
      go_enter Tryd.func67, Tryd.ntmps67
      go_wp2
      go_ret
      exact ⟨ret_bool HX.out.symm, ((Below.refl _ _).alloc (Nat.le_refl _) _).alloc (by simp) _⟩
    · have HX := Lib.hid (meetB_no (x := x) (v := v) (.inr (show y < u by omega)))
      have hd : decide (u ≤ y) = false := decide_eq_false h2
      go_enter Tryd.func67, Tryd.ntmps67
      go_wp2
      go_ret
      exact ⟨ret_bool HX.out.symm, ((Below.refl _ _).alloc (Nat.le_refl _) _).alloc (by simp) _⟩
  · have HX := Lib.hid (meetB_no (y := y) (u := u) (.inl (show v < x by omega)))
    have hd : decide (x ≤ v) = false := decide_eq_false h1
    go_enter Tryd.func67, Tryd.ntmps67
    go_wp2
    go_ret
    exact ⟨ret_bool HX.out.symm, ((Below.refl _ _).alloc (Nat.le_refl _) _).alloc (by simp) _⟩

theorem two_agg (x y : Int) : (Value.agg #[.int .i64 x, .int .i64 y]).cells = #[.int .i64 x, .int .i64 y] := rfl

end Go.Proofs.YtkbkgbhnfopgnaaDoor
