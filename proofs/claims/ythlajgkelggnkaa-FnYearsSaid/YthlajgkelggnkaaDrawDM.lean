/-
  The contracts of spec.DrawDoMeet and spec.DrawMeetOf: two drawn spans.
-/
import Derived.Test.YthlajgkelggnkaaPick
import Derived.Deep.RegionWith
namespace Go.Proofs.Ythlajgkelggnkaa
set_option linter.unusedVariables false
open Go.RowKit

def PairPost (w : World) (e : Ending) (w' : World) : Prop := ∃ x y u v : Int, e = .returned (.tuple #[.agg #[.int .i64 x, .int .i64 y], .agg #[.int .i64 u, .int .i64 v]]) ∧ Below w.heap.size w w'
theorem CodeIn.belowA {w w' : World} {A : Option Addr} {len : Nat} (h : CodeIn w A len) (hb : Below w.heap.size w w') : CodeIn w' A len := fun hp => by
  obtain ⟨b, o, hA, hlt, hc⟩ := h hp
  refine ⟨b, o, hA, Nat.lt_of_lt_of_le hlt hb.size, fun j hj => ?_⟩
  obtain ⟨z, h0, h1, h2⟩ := hc j hj
  exact ⟨z, h0, h1, (hb.cell (p := ⟨b, o + j, none⟩) hlt).trans h2⟩
theorem src_drew {w : World} {B len : Nat} (h : Src w B len) : Src w.drew B len := h
theorem below_setDM {B : Nat} {w w' : World} (h : Below B w w') {g : Nat} (hg : B ≤ g) (x y : Value) : Below B w ((w'.setCell ⟨g, 0, none⟩ x).setCell ⟨g, 1, none⟩ y) := (h.setCell hg x).setCell hg y
theorem below_srcD {w w1 w2 : World} {B : Nat} (h : Below w.heap.size w w1) (g : w1.grownBy w2 (some B)) (hB : w.heap.size ≤ B) : Below w.heap.size w w2 := h.grown g h.size (fun z hz => by cases hz; exact hB)

set_option maxHeartbeats 4000000 in
set_option maxRecDepth 100000 in
theorem cDrawDM (A : Option Addr) (len cap : Nat) (w : World) (hlen : len ≤ 1048576) (h : CodeIn w A len) :
    Calls Try.prog 36 #[.slice A len cap] w (PairPost w) := by
  have K2 := (ResAt.new w 0 0 30).below (below_alloc _ (.cells #[.int .i64 0, .int .i64 0] 30))
  have K3 := ResAt.new (w.alloc (.cells #[.int .i64 0, .int .i64 0] 30)) 0 0 30
  have hsz : (w.alloc (.cells #[.int .i64 0, .int .i64 0] 30)).heap.size = w.heap.size + 1 := by simp
  rw [hsz] at K3
  have B0 : Below w.heap.size w ((w.alloc (.cells #[.int .i64 0, .int .i64 0] 30)).alloc (.cells #[.int .i64 0, .int .i64 0] 30)) := ((Below.refl _ _).alloc (Nat.le_refl _) _).alloc (by simp) _
  have hBs : ((w.alloc (.cells #[.int .i64 0, .int .i64 0] 30)).alloc (.cells #[.int .i64 0, .int .i64 0] 30)).heap.size = w.heap.size + 2 := by simp
  have C0 := Lib.hid (cFrom A len cap ((w.alloc (.cells #[.int .i64 0, .int .i64 0] 30)).alloc (.cells #[.int .i64 0, .int .i64 0] 30)) hlen (h.belowA B0))
  rw [hBs] at C0
  clear h
  go_enter Try.func36, Try.ntmps36
  go_wp2_with fail
  refine C0.out.mono ?_
  rintro e w1 ⟨rfl, hS1, hb1⟩
  have hb1' : Below ((w.alloc (.cells #[.int .i64 0, .int .i64 0] 30)).alloc (.cells #[.int .i64 0, .int .i64 0] 30)).heap.size ((w.alloc (.cells #[.int .i64 0, .int .i64 0] 30)).alloc (.cells #[.int .i64 0, .int .i64 0] 30)) w1 := by rw [hBs]; exact hb1
  have K2 := K2.below hb1'
  have K3 := K3.below hb1'
  have B1 := Lib.hid (B0.trans (hb1.mono (by omega)))
  have C1 := Lib.hid (cDraw2 (w.heap.size + 2) len w1 hlen hS1.lt hS1)
  clear hS1 C0 hb1 hb1' B0
  go_wp2_with fail
  refine C1.out.mono ?_
  rintro e w2 ⟨x, y, hx0, hx1, hy0, hy1, rfl, hS2, g2⟩
  have hl2 := hS2.lt
  have gA := World.grownBy_alloc w2 (.cells #[.int .i64 x, .int .i64 y] 30) (some (w.heap.size + 2))
  have K2 := (K2.grownB g2 (by omega)).grownB gA (by omega)
  have K3 := (K3.grownB g2 (by omega)).grownB gA (by omega)
  have K5 := ResAt.new w2 x y 30
  have HS := Lib.hid (srcAlloc hS2 (.cells #[.int .i64 x, .int .i64 y] 30))
  have B2 := Lib.hid (below_srcD B1.out (g2.trans gA) (by omega))
  have hw5 : w2.heap.size ≠ w.heap.size + 2 := by omega
  clear hS2 g2 gA B1 C1
  go_wp2_with fail
  obtain ⟨W, hW⟩ : ∃ W : World, W = w2.alloc (.cells #[.int .i64 x, .int .i64 y] 30) := ⟨_, rfl⟩
  rw [← hW] at K2 K3 K5 HS B2 ⊢
  obtain ⟨P, hP⟩ : ∃ P : Nat, P = w2.heap.size := ⟨_, rfl⟩
  rw [← hP] at K5 hw5 hl2 ⊢
  clear hW hP
  have CALL := Lib.hid (fun (V : World) (hV : Src V (w.heap.size + 2) len) => cDraw2 (w.heap.size + 2) len V hlen hV.lt hV)
  have HK2 := Lib.hid K2
  have HK3 := Lib.hid K3
  have HK5 := Lib.hid K5
  obtain ⟨⟨l5, a0, a1⟩, f50, f51⟩ := K5
  clear K2 K3
  go_region_with (first
    | (go_at_call 46; refine (CALL.out _ ?hs).mono ?_; (case hs => first | exact src_drew HS.out | exact HS.out); rintro e w4 ⟨u, v, hu0, hu1, hv0, hv1, rfl, hS4, g4⟩; have g4' : W.grownBy w4 (some (w.heap.size + 2)) := ⟨g4.os, g4.tape, g4.output, g4.size, g4.block⟩; obtain ⟨⟨m2, b0, b1⟩, fb0, fb1⟩ := HK2.out.grownB g4' (by omega); obtain ⟨⟨m3, c0, c1⟩, fc0, fc1⟩ := HK3.out.grownB g4' (by omega); obtain ⟨⟨m5, e0, e1⟩, fe0, fe1⟩ := HK5.out.grownB g4' hw5; have B4 := Lib.hid (below_srcD B2.out g4' (by omega)); clear hS4 g4))
  all_goals
    go_wp2_with fail
    refine bodyPost_ret ?_ rfl ⟨x, y, u, v, rfl, ?_⟩
    · simp [results, Try.results36, go_sem, b0, b1, c0, c1]
    · exact below_setDM (below_setDM B4.out (Nat.le_refl _) _ _) (by omega) _ _

set_option maxHeartbeats 2000000 in
theorem cDrawMO (A : Option Addr) (len cap : Nat) (w : World) (hlen : len ≤ 1048576) (h : CodeIn w A len) :
    Calls Try.prog 11 #[.slice A len cap] w (PairPost w) := by
  have K2 := (ResAt.new w 0 0 30).below (below_alloc _ (.cells #[.int .i64 0, .int .i64 0] 30))
  have K3 := ResAt.new (w.alloc (.cells #[.int .i64 0, .int .i64 0] 30)) 0 0 30
  have hsz : (w.alloc (.cells #[.int .i64 0, .int .i64 0] 30)).heap.size = w.heap.size + 1 := by simp
  rw [hsz] at K3
  have B0 : Below w.heap.size w ((w.alloc (.cells #[.int .i64 0, .int .i64 0] 30)).alloc (.cells #[.int .i64 0, .int .i64 0] 30)) := ((Below.refl _ _).alloc (Nat.le_refl _) _).alloc (by simp) _
  have C0 := Lib.hid (cDrawDM A len cap ((w.alloc (.cells #[.int .i64 0, .int .i64 0] 30)).alloc (.cells #[.int .i64 0, .int .i64 0] 30)) hlen (h.belowA B0))
  clear h
  go_enter Try.func11, Try.ntmps11
  go_wp2_with fail
  refine C0.out.mono ?_
  rintro e w4 ⟨x, y, u, v, rfl, hb1⟩
  obtain ⟨⟨m2, b0, b1⟩, fb0, fb1⟩ := K2.below hb1
  obtain ⟨⟨m3, c0, c1⟩, fc0, fc1⟩ := K3.below hb1
  have B4 := Lib.hid (B0.trans (hb1.mono B0.size))
  clear K2 K3 hb1 C0 B0
  go_wp2_with fail
  refine bodyPost_ret ?_ rfl ⟨x, y, u, v, rfl, ?_⟩
  · simp [results, Try.results11, go_sem, b0, b1, c0, c1]
  · exact below_setDM (below_setDM B4.out (Nat.le_refl _) _ _) (by omega) _ _
end Go.Proofs.Ythlajgkelggnkaa
