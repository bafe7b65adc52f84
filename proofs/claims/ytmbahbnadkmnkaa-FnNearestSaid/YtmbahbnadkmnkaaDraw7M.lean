/-
  The contracts of spec.DrawMatchSounds and spec.DrawNearestWords.
-/
import Derived.Test.YtmbahbnadkmnkaaDraw7L
import Derived.Test.YtmbahbnadkmnkaaSpI
import Derived.Test.YtmbahbnadkmnkaaSpS
namespace Go.Proofs.Ytmbahbnadkmnkaa
set_option linter.unusedVariables false
open Go.RowKit

theorem Src.below {w w' : World} {B len : Nat} (h : Src w B len) (hb : Below w.heap.size w w') : Src w' B len := by
  obtain ⟨A, cap, at_, seed, hT, h1, h2, h3, h4, hC⟩ := h
  refine ⟨A, cap, at_, seed, (hb.block B hT.lt).trans hT, h1, h2, h3, h4, fun hp => ?_⟩
  obtain ⟨b, o, hA, hne, hlt, hc⟩ := hC hp
  refine ⟨b, o, hA, hne, Nat.lt_of_lt_of_le hlt hb.size, fun j hj => ?_⟩
  obtain ⟨z, z0, z1, z2⟩ := hc j hj
  exact ⟨z, z0, z1, (hb.cell (by exact hlt)).trans z2⟩
theorem CodeIn.belowG {w w' : World} {A : Option Addr} {len : Nat} (h : CodeIn w A len) (hb : Below w.heap.size w w') : CodeIn w' A len := fun hp => by
  obtain ⟨b, o, hA, hlt, hc⟩ := h hp
  refine ⟨b, o, hA, Nat.lt_of_lt_of_le hlt hb.size, fun j hj => ?_⟩
  obtain ⟨z, h0, h1, h2⟩ := hc j hj
  exact ⟨z, h0, h1, (hb.cell (by exact hlt)).trans h2⟩
theorem below_srcG {w w1 w2 : World} {B : Nat} (h : Below w.heap.size w w1) (hB : w.heap.size ≤ B) (hg : w1.grownBy w2 (some B)) : Below w.heap.size w w2 := h.grown hg h.size (fun k hk => by cases hk; exact hB)
/-- A drawn table, a drawn list and a drawn text. -/
def MPost (w : World) (e : Ending) (w' : World) : Prop :=
  ∃ (g n c : Nat) (xs : List Int) (A : Option Addr) (m d : Nat) (ls : List ByteArray) (x : ByteArray), e = .returned (.tuple #[.slice (some ⟨g, 0, none⟩) n c, .slice A m d, .string x]) ∧
    w'.ownsRow w.heap.size 2 1 (.slice (some ⟨g, 0, none⟩) n c) n (intV xs) ∧ n ≤ 26 ∧ w'.ownsRow w.heap.size 9 1 (.slice A m d) m (strV ls) ∧ m ≤ 21 ∧ (∀ y ∈ ls, y.size ≤ 128) ∧ x.size ≤ 128 ∧ Below w.heap.size w w'

set_option maxHeartbeats 4000000 in
set_option maxRecDepth 100000 in
theorem cDrawMatch (A : Option Addr) (len cap : Nat) (w : World) (hlen : len ≤ 1048576) (h : CodeIn w A len) :
    Calls Try.prog 42 #[.slice A len cap] w (MPost w) := by
  have C0 := Lib.hid (cFrom A len cap w hlen h)
  obtain ⟨B, hB⟩ : ∃ B, B = w.heap.size := ⟨_, rfl⟩
  have HB := Lib.hid hB
  rw [← hB] at C0
  clear h hB
  go_enter Try.func42, Try.ntmps42
  go_wp2_with fail
  refine C0.out.mono ?_
  rintro e w1 ⟨rfl, hS1, hb1⟩
  have hlt1 := hS1.lt
  have B1 : Hid (Below w.heap.size w w1) := Lib.hid (by rw [← HB.out]; exact hb1)
  have C1 := Lib.hid (cTable B len w1 hlen hS1)
  clear hS1 hb1 C0
  go_wp2_with fail
  refine C1.out.mono ?_
  rintro e w2 ⟨g, n, c, xs, rfl, hO2, hn, hS2, g2⟩
  have B2 := Lib.hid (below_srcG B1.out (Nat.le_of_eq HB.out.symm) g2)
  have O2 : Hid (w2.ownsRow w1.heap.size 2 1 (.slice (some ⟨g, 0, none⟩) n c) n (intV xs)) := Lib.hid hO2
  have C2 := Lib.hid (cList B len w2 hlen hS2)
  have hw12 := g2.size
  clear hS2 g2 hO2 B1 C1
  go_wp2_with fail
  refine C2.out.mono ?_
  rintro e w3 ⟨A3, m, d, ls, rfl, hO3, hm, hz, hS3, g3⟩
  have B3 := Lib.hid (below_srcG B2.out (Nat.le_of_eq HB.out.symm) g3)
  have O3 := Lib.hid (own_srcB O2.out g3 hlt1)
  have L3 : Hid (w3.ownsRow w2.heap.size 9 1 (.slice A3 m d) m (strV ls)) := Lib.hid hO3
  have S3 := Lib.hid hS3
  have HZ := Lib.hid hz
  have hlt2 : B < w2.heap.size := Nat.lt_of_lt_of_le hlt1 hw12
  have hw0 : w.heap.size ≤ w1.heap.size := by have := HB.out; omega
  clear hS3 g3 hO3 hz B2 O2 C2
  have CW := Lib.hid (fun (V : World) (hV : Src V B len) => cDrawWord B len V hlen hV)
  rcases Nat.eq_zero_or_pos m with rfl | hmp
  · go_wp2_with fail
    refine (CW.out _ S3.out).mono ?_
    rintro e w4 ⟨x, hx64, rfl, hS4, g4⟩
    have HP : Hid (MPost w (.returned (.tuple #[.slice (some ⟨g, 0, none⟩) n c, .slice A3 0 d, .string x])) w4) := Lib.hid ⟨g, n, c, xs, A3, 0, d, ls, x, rfl, rowBase (own_srcB O3.out g4 hlt1) hw0, hn, rowBase (own_srcB L3.out g4 hlt2) (by omega), by omega, HZ.out, by omega, below_srcG B3.out (Nat.le_of_eq HB.out.symm) g4⟩
    clear hS4 g4
    go_wp2_with fail
    refine bodyPost_ret (v := .tuple #[.slice (some ⟨g, 0, none⟩) n c, .slice A3 0 d, .string x]) (by simp [results, Try.results42, go_sem]) rfl ?_
    exact HP.out
  have dm : (0 : Int) < (m : Int) := by omega
  obtain ⟨gl, cap2, he, hg1, hgl⟩ := L3.out.form hmp
  obtain ⟨rfl, rfl⟩ : A3 = some ⟨gl, 0, none⟩ ∧ d = cap2 := by injection he with h1 h2 h3; exact ⟨h1, h3⟩
  clear he
  go_wp2_with fail
  refine (cNext B len 2 _ hlen (by omega) (by omega) S3.out).mono ?_
  rintro e w4 ⟨r, hr0, hr1, rfl, hS4, g4⟩
  have B4 := Lib.hid (below_srcG B3.out (Nat.le_of_eq HB.out.symm) g4)
  have O4 := Lib.hid (own_srcB O3.out g4 hlt1)
  have L4 := Lib.hid (own_srcB L3.out g4 hlt2)
  have S4 := Lib.hid hS4
  clear hS4 g4 O3 L3 B3 S3 hr1
  by_cases hr : r = 0
  · subst hr
    obtain ⟨x0, hx0⟩ : ∃ x0, ls[0]? = some x0 := ⟨ls[0]'(by have := L4.out.1; rw [strV_len] at this; omega), List.getElem?_eq_getElem _⟩
    have hx0s : x0.size ≤ 128 := HZ.out x0 (List.mem_of_getElem? hx0)
    have kc : w4.cell? ⟨gl, 0, none⟩ = some (.string x0) := (L4.out.cellAt 0 (by omega)).trans (strV_at _ _ _ hx0)
    have HP : Hid (∀ V : World, V.heap = w4.heap → V.os = w4.os → V.tape = w4.tape → V.output = w4.output → MPost w (.returned (.tuple #[.slice (some ⟨g, 0, none⟩) n c, .slice (some ⟨gl, 0, none⟩) m d, .string x0])) V) := Lib.hid (fun V e1 e2 e3 e4 => by
      have hg : w4.grownBy V none := ⟨e2, e3, e4, by rw [e1]; exact Nat.le_refl _, fun k _ _ => by rw [e1]⟩
      exact ⟨g, n, c, xs, _, m, d, ls, x0, rfl, rowBase (O4.out.kept hg (.inr (fun e => by cases e))) hw0, hn, rowBase (L4.out.kept hg (.inr (fun e => by cases e))) (by omega), hm, HZ.out, hx0s, B4.out.grown hg B4.out.size (fun k hk => by cases hk)⟩)
    clear hx0
    go_wp2_with fail
    go_quiet (fail)
    go_wp2_with fail
    refine bodyPost_ret (v := .tuple #[.slice (some ⟨g, 0, none⟩) n c, .slice (some ⟨gl, 0, none⟩) m d, .string x0]) (by simp [results, Try.results42, go_sem]) rfl ?_
    exact HP.out _ rfl rfl rfl rfl
  · have dr : (r == 0) = false := by rw [beq_eq_false_iff_ne]; exact hr
    go_wp2_with fail
    refine (CW.out _ S4.out).mono ?_
    rintro e w5 ⟨x, hx64, rfl, hS5, g5⟩
    have HP : Hid (MPost w (.returned (.tuple #[.slice (some ⟨g, 0, none⟩) n c, .slice (some ⟨gl, 0, none⟩) m d, .string x])) w5) := Lib.hid ⟨g, n, c, xs, _, m, d, ls, x, rfl, rowBase (own_srcB O4.out g5 hlt1) hw0, hn, rowBase (own_srcB L4.out g5 hlt2) (by omega), hm, HZ.out, by omega, below_srcG B4.out (Nat.le_of_eq HB.out.symm) g5⟩
    clear hS5 g5
    go_wp2_with fail
    refine bodyPost_ret (v := .tuple #[.slice (some ⟨g, 0, none⟩) n c, .slice (some ⟨gl, 0, none⟩) m d, .string x]) (by simp [results, Try.results42, go_sem]) rfl ?_
    exact HP.out

def NPost (w : World) (e : Ending) (w' : World) : Prop :=
  ∃ (A : Option Addr) (m d : Nat) (ls : List ByteArray) (x : ByteArray) (r : Int), e = .returned (.tuple #[.slice A m d, .string x, .int .i64 r]) ∧
    TextAt w' w'.heap.size A m ls ∧ m ≤ 21 ∧ (∀ y ∈ ls, y.size ≤ 128) ∧ x.size ≤ 128 ∧ -1 ≤ r ∧ r ≤ 17 ∧ Below w.heap.size w w'
set_option maxHeartbeats 4000000 in
set_option maxRecDepth 100000 in
theorem cDrawNear (A : Option Addr) (len cap : Nat) (w : World) (hlen : len ≤ 1048576) (h : CodeIn w A len) :
    Calls Try.prog 12 #[.slice A len cap] w (NPost w) := by
  have C0 := Lib.hid (cFrom A len cap w hlen h)
  have HC := Lib.hid h
  obtain ⟨B, hB⟩ : ∃ B, B = w.heap.size := ⟨_, rfl⟩
  have HB := Lib.hid hB
  rw [← hB] at C0
  clear h hB
  go_enter Try.func12, Try.ntmps12
  go_wp2_with fail
  refine C0.out.mono ?_
  rintro e w1 ⟨rfl, hS1, hb1⟩
  have hlt1 := hS1.lt
  have B1 : Hid (Below w.heap.size w w1) := Lib.hid (by rw [← HB.out]; exact hb1)
  have S1 := Lib.hid hS1
  have C1 := Lib.hid (cDrawMatch A len cap w1 hlen (HC.out.belowG B1.out))
  clear hS1 hb1 C0 HC
  go_wp2_with fail
  refine C1.out.mono ?_
  rintro e w2 ⟨g, n, c, xs, A2, m, d, ls, x, rfl, hO2, hn, hL2, hm, hz, hx, hb2⟩
  have B2 := Lib.hid (B1.out.trans (hb2.mono B1.out.size))
  have S2 := Lib.hid (S1.out.below hb2)
  have L2 : Hid (w2.ownsRow w1.heap.size 9 1 (.slice A2 m d) m (strV ls)) := Lib.hid hL2
  have HZ := Lib.hid hz
  have hlt2 := S2.out.lt
  have hw12 := hb2.size
  clear hO2 hL2 hz hb2 B1 S1 C1
  have S3 := Lib.hid (srcAlloc S2.out (.cells #[.int .i64 0, .int .i64 1, .int .i64 2, .int .i64 3, .int .i64 5, .int .i64 16, .int .i64 17, .int .i64 (-1)] 2))
  have L3 := Lib.hid (L2.out.alloc (.cells #[.int .i64 0, .int .i64 1, .int .i64 2, .int .i64 3, .int .i64 5, .int .i64 16, .int .i64 17, .int .i64 (-1)] 2))
  have B3 := Lib.hid (B2.out.alloc B2.out.size (.cells #[.int .i64 0, .int .i64 1, .int .i64 2, .int .i64 3, .int .i64 5, .int .i64 16, .int .i64 17, .int .i64 (-1)] 2))
  have HR := Lib.hid (rowLit w2 [0, 1, 2, 3, 5, 16, 17, -1] (-1) 17 (by decide) 2)
  have hne : w2.heap.size ≠ B := by omega
  have CP := Lib.hid (cPick B len w2.heap.size 8 8 (-1) 17 _ hlen (by omega) (by omega) hne HR.out S3.out)
  clear S2 L2 B2 S3 HR
  go_wp2_with fail
  refine CP.out.mono ?_
  rintro e w4 ⟨r, hr0, hr1, rfl, hS4, g4⟩
  have L4 := Lib.hid (own_srcB L3.out g4 hlt1)
  have HP : Hid (NPost w (.returned (.tuple #[.slice A2 m d, .string x, .int .i64 r])) w4) := Lib.hid ⟨A2, m, d, ls, x, r, rfl, own_text L4.out, hm, HZ.out, hx, hr0, hr1, below_srcG B3.out (Nat.le_of_eq HB.out.symm) g4⟩
  clear hS4 g4 L3 B3 CP
  go_wp2_with fail
  refine bodyPost_ret (v := .tuple #[.slice A2 m d, .string x, .int .i64 r]) (by simp [results, Try.results12, go_sem]) rfl ?_
  exact HP.out
end Go.Proofs.Ytmbahbnadkmnkaa
