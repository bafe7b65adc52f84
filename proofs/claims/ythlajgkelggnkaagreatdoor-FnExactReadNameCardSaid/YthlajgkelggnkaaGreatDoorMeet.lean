/-
  The contracts of Span.meet, DoMeet and MeetOf of both packages.
-/
import Derived.Test.YthlajgkelggnkaaGreatDoorSpan
import Derived.Outline
namespace Go.Proofs.YthlajgkelggnkaaGreatDoor
set_option linter.unusedVariables false
open Go.RowKit

def meetB (x y u v : Int) : Bool := decide (x ≤ v) && decide (u ≤ y)
theorem meetB_yes {x y u v : Int} (h1 : x ≤ v) (h2 : u ≤ y) : meetB x y u v = true := by unfold meetB; simp [h1, h2]
theorem meetB_no {x y u v : Int} (h : v < x ∨ y < u) : meetB x y u v = false := by
  cases hh : meetB x y u v
  · rfl
  · unfold meetB at hh; simp at hh; omega
theorem meet_valid {x y u v : Int} (h1 : spB x y = true) (h2 : spB u v = true) : spB (max x u) (min y v) = meetB x y u v := by
  have a := spB_bd h1
  have b := spB_bd h2
  cases hm : meetB x y u v
  · cases hs : spB (max x u) (min y v)
    · rfl
    · have c := spB_bd hs
      rw [meetB_yes (by omega) (by omega)] at hm
      cases hm
  · unfold meetB at hm
    simp at hm
    exact spB_mk (by omega) (by omega) (by omega)

theorem two_agg (x y : Int) : (Value.agg #[.int .i64 x, .int .i64 y]).cells = #[.int .i64 x, .int .i64 y] := rfl

end Go.Proofs.YthlajgkelggnkaaGreatDoor
