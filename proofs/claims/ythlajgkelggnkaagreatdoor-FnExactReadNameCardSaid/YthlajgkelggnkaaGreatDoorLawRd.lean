/-
  The law of ReadName: its call answers true.
-/
import Derived.Test.YthlajgkelggnkaaGreatDoorRd9S
import Derived.Test.YthlajgkelggnkaaGreatDoorRd9R
import Derived.Test.YthlajgkelggnkaaGreatDoorNmLaw
namespace Go.Proofs.YthlajgkelggnkaaGreatDoor
set_option linter.unusedVariables false
open Go.RowKit

set_option maxHeartbeats 1000000 in
theorem wRd (s : ByteArray) (w : World) (hs : s.size ≤ maxLen) (hl : Laid w) (hsh : w.ShapedOpen Tryz.prog) (her : Er5 w) :
    Calls Tryz.prog 4 #[.string s] w fun e w' => e = .returned (.bool true) ∧ Below w.heap.size w w' := by
  unfold maxLen at hs
  by_cases h1 : 1048576 < s.size
  · have hd : decide ((1048576 : Int) < (s.size : Int)) = true := decide_eq_true (by omega)
    go_enter Tryz.func4, Tryz.ntmps4
    go_wp2_with fail
    go_ret
    exact ⟨rfl, Below.refl _ _⟩
  have hd : decide ((1048576 : Int) < (s.size : Int)) = false := decide_eq_false (by omega)
  have D1 := Lib.hid (fun W => cRd_spec s W (by omega))
  have D2 := Lib.hid (fun W (hW : Below w.heap.size w W) => cRd_impl s W (by omega) (hl.below hW) (shaped_below hsh hW) (her.below hW))
  obtain ⟨z, hz⟩ : ∃ z, z = rdF s := ⟨_, rfl⟩
  obtain ⟨q, hq⟩ : ∃ q, q = rdC s := ⟨_, rfl⟩
  rw [← hz, ← hq] at D1 D2
  have E1 := Lib.hid (fun W => cEqNm z W)
  have hqq : (q != q) = false := by simp
  clear hz hq hl hsh her
  go_enter Tryz.func4, Tryz.ntmps4
  go_wp2_with fail
  refine (D1.out _).mono ?_
  rintro e w1 ⟨rfl, g1⟩
  have KB1 := Lib.hid (fun W hW => nm_box (w := w1) (W := W) (x := z) (t := 27) hW)
  have hb1 := g1.alloc g1.size (.cells #[.string z.t, .string z.l, .int .i64 z.s, .int .i64 z.f, .int .i64 z.u] 27)
  go_wp2_with fail
  refine (D2.out _ hb1).mono ?_
  rintro e w2 ⟨rfl, g2⟩
  have hb2 := bstep9 hb1 hb1.size g2
  have gb := (Below.refl w2.heap.size w2).alloc (Nat.le_refl _) (.cells #[.string z.t, .string z.l, .int .i64 z.s, .int .i64 z.f, .int .i64 z.u] 27)
  have hb3 := bstep9 hb2 hb2.size gb
  obtain ⟨n0, n1, n2, n3, n4⟩ := KB1.out _ (bstep9 g2 g2.size gb)
  obtain ⟨m0, m1, m2, m3, m4⟩ := nm_box (w := w2) (x := z) (t := 27) (Below.refl _ _)
  clear g1 g2 hb1 hb2 gb
  go_wp2_with fail
  refine (E1.out _).mono ?_
  rintro e w3 ⟨rfl, g3⟩
  have hb4 := bstep9 hb3 hb3.size g3
  go_wp2_with fail
  go_ret
  exact ⟨rfl, hb4⟩
end Go.Proofs.YthlajgkelggnkaaGreatDoor
