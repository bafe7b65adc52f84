/-
  The law of TakeApart: its call answers true.
-/
import Derived.Test.YtippjomkbpiliaaDoorSpS
import Derived.Test.YtippjomkbpiliaaDoorSpP
import Derived.Test.YtippjomkbpiliaaDoorPtS
namespace Go.Proofs.YtippjomkbpiliaaDoor
set_option linter.unusedVariables false
open Go.RowKit

set_option maxHeartbeats 4000000 in
set_option maxRecDepth 100000 in
theorem wTakeApart (a0 : Option Addr) (n0 c0 : Nat) (z0 : List ByteArray) (s1 : ByteArray) (h1 : s1.size ≤ maxLen) (w : World) (h0 : IsStrs w a0 n0 c0 z0) (hsh : w.ShapedOpen Tryd.prog) :
    Calls Tryd.prog 4 #[.slice a0 n0 c0, .string s1] w fun e w' => e = .returned (.bool true) ∧ Below w.heap.size w w' := by
  obtain ⟨hm0, hS0, hn0⟩ := textAt_arg h0
  clear h0
  obtain ⟨xs0, hxs0⟩ : ∃ xs, xs = z0.take n0 := ⟨_, rfl⟩
  rw [← hxs0] at hn0 hS0
  clear hxs0
  have S0 : Hid (∀ r : Int, 0 ≤ r → r ≤ 1048576 → Calls Tryd.prog 20 #[.slice a0 n0 c0, .int .i64 r] w (SomeR (SmallS n0 xs0) w)) := Lib.hid (fun r h0 h1 => tSz2 a0 n0 c0 _ xs0 r h0 h1 w hm0 hS0 hn0)
  clear hS0
  have N0_0 := Lib.hid (Sp.text hn0)
  clear hn0
  have B_0 := Lib.hid (Sp.from_ w)
  have HSH : Hid (∀ W, Below w.heap.size w W → W.ShapedOpen Tryd.prog) := Lib.hid (fun W hW => shaped_below hsh hW)
  clear hsh
  unfold maxLen at hm0
  unfold maxLen at h1
  by_cases hbig1 : 1048576 < s1.size
  · go_enter Tryd.func4, Tryd.ntmps4
    go_wp2_with fail
    go_ret
    exact ⟨rfl, Below.refl _ _⟩
  have hs1 : s1.size ≤ 1048576 := by omega
  have CS : Hid (∀ (W : World) (A0 : Option Addr) (c0 : Nat), Below w.heap.size w W → n0 ≤ c0 → n0 ≤ 1048576 → (∀ x ∈ xs0, x.size ≤ 1048576) → TextAt W W.heap.size A0 n0 xs0 → Calls Tryd.prog 10 #[.slice A0 n0 c0, .string s1] W fun e w' => e = .returned (.tuple #[.agg #[.string (taS xs0 s1), .string (taG xs0 s1)], .int .i64 (taC xs0 s1)]) ∧ Below W.heap.size W w') := Lib.hid (fun W A0 c0 hW hcap0 hb0 hl0 N0 => tTake_spec A0 n0 c0 xs0 s1 W hb0 (fun x hx => by have := hl0 x hx; unfold maxLen; omega) hs1 N0)
  have CI : Hid (∀ (W : World) (A0 : Option Addr) (c0 : Nat), Below w.heap.size w W → n0 ≤ c0 → n0 ≤ 1048576 → (∀ x ∈ xs0, x.size ≤ 1048576) → TextAt W W.heap.size A0 n0 xs0 → Calls Tryd.prog 9 #[.slice A0 n0 c0, .string s1] W fun e w' => e = .returned (.tuple #[.agg #[.string (taS xs0 s1), .string (taG xs0 s1)], .int .i64 (taC xs0 s1)]) ∧ Below W.heap.size W w') := Lib.hid (fun W A0 c0 hW hcap0 hb0 hl0 N0 => tTake_impl A0 n0 c0 xs0 s1 W hb0 hcap0 (fun x hx => by have := hl0 x hx; unfold maxLen; omega) hs1 N0 (HSH.out W hW))
  obtain ⟨v0a, hv0a⟩ : ∃ v, v = taS xs0 s1 := ⟨_, rfl⟩
  rw [← hv0a] at CS CI
  clear hv0a
  obtain ⟨v0b, hv0b⟩ : ∃ v, v = taG xs0 s1 := ⟨_, rfl⟩
  rw [← hv0b] at CS CI
  clear hv0b
  obtain ⟨v1, hv1⟩ : ∃ v, v = taC xs0 s1 := ⟨_, rfl⟩
  rw [← hv1] at CS CI
  clear hv1
  have hd1 : (v1 != v1) = false := by simp
  go_enter Tryd.func4, Tryd.ntmps4
  go_wp2_with fail
  refine (S0.out 1048576 (by omega) (by omega)).mono ?_
  rintro e w' ⟨r0, hr0, rfl, rfl⟩
  by_cases hrn0 : r0 < 0
  · have hr1 := hr0.1
    clear hr0
    go_wp2_with fail
    go_ret
    exact ⟨rfl, Below.refl _ _⟩
  obtain ⟨hb0, hl0⟩ : n0 ≤ 1048576 ∧ ∀ x ∈ xs0, x.size ≤ 1048576 := by rcases hr0.2 with h | h; omega; exact h
  have hrs0 := hr0.1
  have hrz0 : 0 ≤ r0 := by omega
  have HLS0 := Lib.hid hl0
  clear hr0 hl0
  have CX1 := Lib.hid (uToS a0 n0 c0 xs0 w hb0 N0_0.out.here)
  go_wp2_with fail
  refine CX1.out.mono ?_
  rintro e w1 ⟨P0K, rfl, o1, g1⟩
  clear CX1
  have SZ1 : Hid (w.heap.size ≤ w1.heap.size) := Lib.hid g1.size
  have B_1 := Lib.hid (B_0.out.next g1)
  clear B_0
  have N0_1 := Lib.hid (N0_0.out.next g1)
  clear N0_0
  have K0_1 := Lib.hid (Sp.row o1)
  clear g1 o1
  have CX2 := Lib.hid (CS.out w1 _ n0 (B_1.out.here) (Nat.le_refl _) hb0 HLS0.out (own_text (K0_1.out.here)))
  go_wp2_with fail
  refine CX2.out.mono ?_
  rintro e w2 ⟨rfl, g2⟩
  clear CX2
  clear K0_1
  have SZ2 : Hid (w1.heap.size ≤ w2.heap.size) := Lib.hid g2.size
  have B_2 := Lib.hid (B_1.out.next g2)
  clear B_1
  have N0_2 := Lib.hid (N0_1.out.next g2)
  clear N0_1
  clear g2
  have g3 : Below w2.heap.size w2 (w2.alloc (.cells #[.string v0a, .string v0b] 28)) := (Below.refl _ _).alloc (Nat.le_refl _) _
  have SZ3 : Hid (w2.heap.size ≤ (w2.alloc (.cells #[.string v0a, .string v0b] 28)).heap.size) := Lib.hid g3.size
  have B_3 := Lib.hid (B_2.out.next g3)
  clear B_2
  have N0_3 := Lib.hid (N0_2.out.next g3)
  clear N0_2
  clear g3
  have PBR0_3 := Lib.hid (Sp.pb w2 v0a v0b)
  have CX4 := Lib.hid (uToS a0 n0 c0 xs0 (w2.alloc (.cells #[.string v0a, .string v0b] 28)) hb0 N0_3.out.here)
  go_wp2_with fail
  refine CX4.out.mono ?_
  rintro e w4 ⟨P0X, rfl, o4, g4⟩
  clear CX4
  have SZ4 : Hid ((w2.alloc (.cells #[.string v0a, .string v0b] 28)).heap.size ≤ w4.heap.size) := Lib.hid g4.size
  have B_4 := Lib.hid (B_3.out.next g4)
  clear B_3
  have N0_4 := Lib.hid (N0_3.out.next g4)
  clear N0_3
  have PBR0_4 := Lib.hid (PBR0_3.out.next g4)
  clear PBR0_3
  have X0_4 := Lib.hid (Sp.row o4)
  clear g4 o4
  have CX5 := Lib.hid (CI.out w4 _ n0 (B_4.out.here) (Nat.le_refl _) hb0 HLS0.out (own_text (X0_4.out.here)))
  go_wp2_with fail
  refine CX5.out.mono ?_
  rintro e w5 ⟨rfl, g5⟩
  clear CX5
  have SZ5 : Hid (w4.heap.size ≤ w5.heap.size) := Lib.hid g5.size
  have B_5 := Lib.hid (B_4.out.next g5)
  clear B_4
  have N0_5 := Lib.hid (N0_4.out.next g5)
  clear N0_4
  have PBR0_5 := Lib.hid (PBR0_4.out.next g5)
  clear PBR0_4
  have X0_5 := Lib.hid (X0_4.out.next g5)
  clear X0_4
  clear g5
  have g6 : Below w5.heap.size w5 (w5.alloc (.cells #[.string v0a, .string v0b] 28)) := (Below.refl _ _).alloc (Nat.le_refl _) _
  have SZ6 : Hid (w5.heap.size ≤ (w5.alloc (.cells #[.string v0a, .string v0b] 28)).heap.size) := Lib.hid g6.size
  have B_6 := Lib.hid (B_5.out.next g6)
  clear B_5
  have N0_6 := Lib.hid (N0_5.out.next g6)
  clear N0_5
  have PBR0_6 := Lib.hid (PBR0_5.out.next g6)
  clear PBR0_5
  have X0_6 := Lib.hid (X0_5.out.next g6)
  clear X0_5
  clear g6
  have PBG0_6 := Lib.hid (Sp.pb w5 v0a v0b)
  obtain ⟨pa0, pa1⟩ := PBG0_6.out.here
  obtain ⟨pb0, pb1⟩ := PBR0_6.out.here
  have CX7 := Lib.hid (cEqParts v0a v0b (w5.alloc (.cells #[.string v0a, .string v0b] 28)))
  go_wp2_with fail
  refine CX7.out.mono ?_
  rintro e w7 ⟨rfl, g7⟩
  clear CX7
  have SZ7 : Hid ((w5.alloc (.cells #[.string v0a, .string v0b] 28)).heap.size ≤ w7.heap.size) := Lib.hid g7.size
  have B_7 := Lib.hid (B_6.out.next g7)
  clear B_6
  have N0_7 := Lib.hid (N0_6.out.next g7)
  clear N0_6
  have PBR0_7 := Lib.hid (PBR0_6.out.next g7)
  clear PBR0_6
  have X0_7 := Lib.hid (X0_6.out.next g7)
  clear X0_6
  have PBG0_7 := Lib.hid (PBG0_6.out.next g7)
  clear PBG0_6
  clear g7
  clear pa0 pa1 pb0 pb1
  have CX8 := Lib.hid (uToS a0 n0 c0 xs0 w7 hb0 N0_7.out.here)
  go_wp2_with fail
  refine CX8.out.mono ?_
  rintro e w8 ⟨P0Y, rfl, o8, g8⟩
  clear CX8
  have SZ8 : Hid (w7.heap.size ≤ w8.heap.size) := Lib.hid g8.size
  have B_8 := Lib.hid (B_7.out.next g8)
  clear B_7
  have N0_8 := Lib.hid (N0_7.out.next g8)
  clear N0_7
  have PBR0_8 := Lib.hid (PBR0_7.out.next g8)
  clear PBR0_7
  have X0_8 := Lib.hid (X0_7.out.next g8)
  clear X0_7
  have PBG0_8 := Lib.hid (PBG0_7.out.next g8)
  clear PBG0_7
  have Y0_8 := Lib.hid (Sp.row o8)
  clear g8 o8
  have CX9 := Lib.hid (uEqS P0X P0Y n0 n0 n0 _ _ xs0 w8 hb0 (X0_8.out.here) (Y0_8.out.here))
  go_wp2_with fail
  refine CX9.out.mono ?_
  rintro e w9 ⟨rfl, g9⟩
  clear CX9
  clear Y0_8
  clear X0_8
  have SZ9 : Hid (w8.heap.size ≤ w9.heap.size) := Lib.hid g9.size
  have B_9 := Lib.hid (B_8.out.next g9)
  clear B_8
  have N0_9 := Lib.hid (N0_8.out.next g9)
  clear N0_8
  have PBR0_9 := Lib.hid (PBR0_8.out.next g9)
  clear PBR0_8
  have PBG0_9 := Lib.hid (PBG0_8.out.next g9)
  clear PBG0_8
  clear g9
  go_wp2_with fail
  go_ret
  exact ⟨rfl, B_9.out.here⟩
end Go.Proofs.YtippjomkbpiliaaDoor
