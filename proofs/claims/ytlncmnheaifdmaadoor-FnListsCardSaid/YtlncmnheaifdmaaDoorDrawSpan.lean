/-
  The contracts of spec.DrawSpanText and spec.DrawReadSpan.
-/
import Derived.Test.YtlncmnheaifdmaaDoorPick
import Derived.Test.YtlncmnheaifdmaaDoorDamage
import Derived.Test.YtlncmnheaifdmaaDoorSpanText
namespace Go.Proofs.YtlncmnheaifdmaaDoor
set_option linter.unusedVariables false
open Go.RowKit

theorem CodeIn.below {w w' : World} {A : Option Addr} {len : Nat} (h : CodeIn w A len) (hb : Below w.heap.size w w') : CodeIn w' A len := fun hp => by
  obtain ⟨b, o, hA, hlt, hc⟩ := h hp
  refine ⟨b, o, hA, Nat.lt_of_lt_of_le hlt hb.size, fun j hj => ?_⟩
  obtain ⟨z, h0, h1, h2⟩ := hc j hj
  exact ⟨z, h0, h1, (hb.cell (p := ⟨b, o + j, none⟩) hlt).trans h2⟩
theorem Src.below {w w' : World} {B len : Nat} (h : Src w B len) (hb : Below w.heap.size w w') : Src w' B len := by
  have hlt := h.lt
  obtain ⟨A, cap, a, s, hT, h1, h2, h3, h4, h5⟩ := h
  exact ⟨A, cap, a, s, (hb.block B hlt).trans hT, h1, h2, h3, h4, h5.kept ⟨hb.os, hb.tape, hb.output, hb.size, fun k hk _ => hb.block k hk⟩⟩
theorem bgs {w w' : World} (h : Below w.heap.size w w') (row : Option Nat) : w.grownBy w' row := ⟨h.os, h.tape, h.output, h.size, fun k hk _ => h.block k hk⟩
def DrawnPost (w : World) (e : Ending) (w' : World) : Prop := ∃ x y : Int, -3001 ≤ x ∧ x ≤ 3001 ∧ -3001 ≤ y ∧ y ≤ 3001 ∧ e = .returned (.agg #[.int .i64 x, .int .i64 y]) ∧ Below w.heap.size w w'
def DrawnTextPost (w : World) (e : Ending) (w' : World) : Prop := ∃ t : ByteArray, t.size ≤ 10000 ∧ e = .returned (.string t) ∧ Below w.heap.size w w'

set_option maxHeartbeats 1000000 in
set_option maxRecDepth 100000 in
theorem cDrawSpanText (A : Option Addr) (len cap : Nat) (w : World) (hlen : len ≤ 1048576) (h : CodeIn w A len) :
    Calls Tryd.prog 32 #[.slice A len cap] w (DrawnPost w) := by
  have K0 := ResAt.new w 0 0 44
  have hb0 : Below w.heap.size w (w.alloc (.cells #[.int .i64 0, .int .i64 0] 44)) := (Below.refl _ _).alloc (Nat.le_refl _) _
  have hq0 : w.heap.size < (w.alloc (.cells #[.int .i64 0, .int .i64 0] 44)).heap.size := by simp
  have C0 := Lib.hid (cFrom A len cap _ hlen (h.below hb0))
  obtain ⟨B, hB⟩ : ∃ B, B = (w.alloc (.cells #[.int .i64 0, .int .i64 0] 44)).heap.size := ⟨_, rfl⟩
  rw [← hB] at C0 hq0
  have hBw := hB
  clear h hB
  go_enter Tryd.func32, Tryd.ntmps32
  go_wp2_with fail
  refine C0.out.mono ?_
  rintro e w1 ⟨rfl, hS1, g1⟩
  rw [hBw] at g1
  have hb1 := hb0.trans (g1.mono hb0.size)
  have K1 := K0.below g1
  have hne : w.heap.size ≠ B := by omega
  have C1 := Lib.hid (cDraw2 B len w1 hlen hS1.lt hS1)
  clear hS1 hBw
  go_wp2_with fail
  refine C1.out.mono ?_
  rintro e w2 ⟨x, y, hx0, hx1, hy0, hy1, rfl, hS2, g2⟩
  have hb2 : Below w.heap.size w w2 := hb1.grown g2 hb1.size (fun z hz => by cases hz; omega)
  obtain ⟨⟨l3, a0, a1⟩, f0, f1⟩ := K1.grownB g2 hne
  clear hS2
  go_wp2_with fail
  refine bodyPost_ret ?_ rfl ⟨x, y, hx0, hx1, hy0, hy1, rfl, below_set2 hb2 (Nat.le_refl _) _ _⟩
  simp [results, Tryd.results32, go_sem, a0, a1]

set_option maxHeartbeats 2000000 in
set_option maxRecDepth 100000 in
theorem cDrawReadSpan (A : Option Addr) (len cap : Nat) (w : World) (hlen : len ≤ 1048576) (h : CodeIn w A len) :
    Calls Tryd.prog 35 #[.slice A len cap] w (DrawnTextPost w) := by
  have C0 := Lib.hid (cFrom A len cap _ hlen h)
  clear h
  go_enter Tryd.func35, Tryd.ntmps35
  go_wp2_with fail
  refine C0.out.mono ?_
  rintro e w1 ⟨rfl, hS1, hb1⟩
  have hl1 := hS1.lt
  have C1 := Lib.hid (cGood2 w.heap.size len w1 hlen hl1 hS1)
  clear hS1
  go_wp2_with fail
  refine C1.out.mono ?_
  rintro e w2 ⟨x, y, hx0, hx1, hy0, hy1, rfl, hS2, g2⟩
  have hb2 : Below w.heap.size w w2 := hb1.grown g2 hb1.size (fun z hz => by cases hz; omega)
  have hl2 := hS2.lt
  have Q2 := ResAt.new w2 x y 44
  have hS3 := srcAlloc hS2 (.cells #[.int .i64 x, .int .i64 y] 44)
  have hb3 := hb2.alloc hb2.size (.cells #[.int .i64 x, .int .i64 y] 44)
  have C2 := Lib.hid (cNext w.heap.size len 4 _ hlen (by omega) (by omega) hS3)
  have hne : w2.heap.size ≠ w.heap.size := by omega
  clear hS2 hS3
  go_wp2_with fail
  refine C2.out.mono ?_
  rintro e w4 ⟨r, hr0, hr1, rfl, hS4, g4⟩
  have hb4 : Below w.heap.size w w4 := hb3.grown g4 hb3.size (fun z hz => by cases hz; omega)
  have Q4 := Q2.grownB g4 hne
  have hl4 : w2.heap.size < w4.heap.size := Nat.lt_of_lt_of_le (by simp) g4.size
  obtain ⟨⟨lq, q0, q1⟩, qf0, qf1⟩ := id Q4
  clear hr1 Q2
  have rest : ∀ (W : World) (x' : Int), -3000 ≤ x' → x' ≤ 3000 → Src W w.heap.size len → Below w.heap.size w W → True := fun _ _ _ _ _ _ => trivial
  clear rest
  by_cases hc0 : r = 0
  · have z1 : (r == 0) = true := by simp [hc0]
    have S5 := hS4.set1 (i := 0) (g := w2.heap.size) (by omega) (.int .i64 (-x))
    have hb5 := hb4.setCell (p := ⟨w2.heap.size, 0, none⟩) hb2.size (.int .i64 (-x))
    have Q5 := Q4.1.set_0 (-x)
    obtain ⟨l5, t0, t1⟩ := id Q5
    have s1 : IntKind.i64.wrap (-x) = -x := IntWalk.i64_in _ (by omega)
    generalize hW5 : w4.setCell ⟨w2.heap.size, 0, none⟩ (.int .i64 (-x)) = w5 at *
    have HW := Lib.hid hW5
    have CT := Lib.hid (cText2 (-x) y w5 (by omega) (by omega))
    have hsz : (spanB (-x) y).size ≤ 7000 := by
      have h1 := numB_len (-x)
      have h2 := numB_len y
      have h3 : (⟨#[46, 46]⟩ : ByteArray).size = 2 := rfl
      unfold spanB
      rw [ByteArray.size_append, ByteArray.size_append]
      omega
    generalize spanB (-x) y = tt at *
    clear hc0 hS4 hW5
    go_wp2_with fail
    rw [HW.out]
    refine CT.out.mono ?_
    rintro e w6 ⟨rfl, g6⟩
    have hb6 := hb5.trans (g6.mono hb5.size)
    have S6 := S5.below g6
    have C6 := Lib.hid (cNext w.heap.size len 3 w6 hlen (by omega) (by omega) S6)
    clear S5 S6
    go_wp2_with fail
    refine C6.out.mono ?_
    rintro e w7 ⟨p, hp0, hp1, rfl, S7, g7⟩
    have hb7 : Below w.heap.size w w7 := hb6.grown g7 hb6.size (fun z hz => by cases hz; omega)
    have C7 := Lib.hid (cDamage w.heap.size len tt w7 hlen (by omega) S7)
    clear S7 hp1
    by_cases hd : p = 0
    · have z2 : (p == 0) = true := by simp [hd]
      clear hd
      go_wp2_with fail
      refine C7.out.mono ?_
      rintro e w8 ⟨u, hu, rfl, _, g8⟩
      have hb8 : Below w.heap.size w w8 := hb7.grown g8 hb7.size (fun z hz => by cases hz; omega)
      go_wp2_with fail
      go_ret
      exact ⟨u, by omega, rfl, hb8⟩
    · have z2 : (p == 0) = false := by rw [beq_eq_false_iff_ne]; exact hd
      clear hd
      go_wp2_with fail
      go_ret
      exact ⟨tt, by omega, rfl, hb7⟩
  · have z1 : (r == 0) = false := by rw [beq_eq_false_iff_ne]; exact hc0
    have CT := Lib.hid (cText2 x y w4 (by omega) (by omega))
    have hsz : (spanB x y).size ≤ 7000 := by
      have h1 := numB_len x
      have h2 := numB_len y
      have h3 : (⟨#[46, 46]⟩ : ByteArray).size = 2 := rfl
      unfold spanB
      rw [ByteArray.size_append, ByteArray.size_append]
      omega
    generalize spanB x y = tt at *
    have HS4 := Lib.hid hS4
    clear hc0 hS4
    go_wp2_with fail
    refine CT.out.mono ?_
    rintro e w6 ⟨rfl, g6⟩
    have hb6 := hb4.trans (g6.mono hb4.size)
    have S6 := HS4.out.below g6
    have C6 := Lib.hid (cNext w.heap.size len 3 w6 hlen (by omega) (by omega) S6)
    clear S6
    go_wp2_with fail
    refine C6.out.mono ?_
    rintro e w7 ⟨p, hp0, hp1, rfl, S7, g7⟩
    have hb7 : Below w.heap.size w w7 := hb6.grown g7 hb6.size (fun z hz => by cases hz; omega)
    have C7 := Lib.hid (cDamage w.heap.size len tt w7 hlen (by omega) S7)
    clear S7 hp1
    by_cases hd : p = 0
    · have z2 : (p == 0) = true := by simp [hd]
      clear hd
      go_wp2_with fail
      refine C7.out.mono ?_
      rintro e w8 ⟨u, hu, rfl, _, g8⟩
      have hb8 : Below w.heap.size w w8 := hb7.grown g8 hb7.size (fun z hz => by cases hz; omega)
      go_wp2_with fail
      go_ret
      exact ⟨u, by omega, rfl, hb8⟩
    · have z2 : (p == 0) = false := by rw [beq_eq_false_iff_ne]; exact hd
      clear hd
      go_wp2_with fail
      go_ret
      exact ⟨tt, by omega, rfl, hb7⟩
end Go.Proofs.YtlncmnheaifdmaaDoor
