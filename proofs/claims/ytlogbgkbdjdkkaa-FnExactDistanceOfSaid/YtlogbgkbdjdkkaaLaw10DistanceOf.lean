/-
  The law of DistanceOf: its call answers true.
-/
import Derived.Test.YtlogbgkbdjdkkaaSpI
import Derived.Test.YtlogbgkbdjdkkaaTr10F
namespace Go.Proofs.Ytlogbgkbdjdkkaa
set_option linter.unusedVariables false
open Go.RowKit

set_option maxHeartbeats 4000000 in
set_option maxRecDepth 100000 in
theorem wDistanceOf (a0 : Option Addr) (n0 c0 : Nat) (z0 : List Int) (x1 : Int) (x2 : Int) (w : World) (h0 : IsInts .i64 w a0 n0 c0 z0) :
    Calls Try.prog 10 #[.slice a0 n0 c0, .int .i64 x1, .int .i64 x2] w fun e w' => e = .returned (.bool true) ∧ Below w.heap.size w w' := by
  obtain ⟨hm0, hn0⟩ := numAt_arg h0
  clear h0
  obtain ⟨xs0, hxs0⟩ : ∃ xs, xs = z0.take n0 := ⟨_, rfl⟩
  rw [← hxs0] at hn0
  clear hxs0
  have N0_0 := Lib.hid (Sp.num hn0)
  clear hn0
  have B_0 := Lib.hid (Sp.from_ w)
  unfold maxLen at hm0
  by_cases hbig0 : 1048576 < n0
  · go_enter Try.func10, Try.ntmps10
    go_wp2_with fail
    go_ret
    exact ⟨rfl, Below.refl _ _⟩
  have hb0 : n0 ≤ 1048576 := by omega
  have CS : Hid (∀ (W : World) (A0 : Option Addr) (c0 : Nat), NumAt W W.heap.size A0 n0 xs0 → Calls Try.prog 19 #[.slice A0 n0 c0, .int .i64 x1, .int .i64 x2] W fun e w' => e = .returned (.tuple #[.int .i64 (disV xs0 x1 x2), .int .i64 (clsC xs0 [x1, x2])]) ∧ Below W.heap.size W w') := Lib.hid (fun W A0 c0 N0 => cDistanceOf_spec A0 n0 c0 xs0 x1 x2 W hb0 N0)
  have CI : Hid (∀ (W : World) (A0 : Option Addr) (c0 : Nat), NumAt W W.heap.size A0 n0 xs0 → Calls Try.prog 18 #[.slice A0 n0 c0, .int .i64 x1, .int .i64 x2] W fun e w' => e = .returned (.tuple #[.int .i64 (disV xs0 x1 x2), .int .i64 (clsC xs0 [x1, x2])]) ∧ Below W.heap.size W w') := Lib.hid (fun W A0 c0 N0 => cDistanceOf_impl A0 n0 c0 xs0 x1 x2 W hb0 N0)
  obtain ⟨v0, hv0⟩ : ∃ v, v = disV xs0 x1 x2 := ⟨_, rfl⟩
  rw [← hv0] at CS CI
  clear hv0
  obtain ⟨v1, hv1⟩ : ∃ v, v = clsC xs0 [x1, x2] := ⟨_, rfl⟩
  rw [← hv1] at CS CI
  clear hv1
  have hd0 : (v0 != v0) = false := by simp
  have hd1 : (v1 != v1) = false := by simp
  go_enter Try.func10, Try.ntmps10
  have CX1 := Lib.hid (uToI a0 n0 c0 xs0 w hb0 N0_0.out.here)
  go_wp2_with fail
  refine CX1.out.mono ?_
  rintro e w1 ⟨P0K, rfl, o1, g1⟩
  clear CX1
  have SZ1 : Hid (w.heap.size ≤ w1.heap.size) := Lib.hid g1.size
  have B_1 := Lib.hid (B_0.out.next g1)
  clear B_0
  have N0_1 := Lib.hid (N0_0.out.next g1)
  clear N0_0
  have K0_1 := Lib.hid (Sp.row o1)
  clear g1 o1
  have CX2 := Lib.hid (CS.out w1 _ n0 (own_num (K0_1.out.here)))
  go_wp2_with fail
  refine CX2.out.mono ?_
  rintro e w2 ⟨rfl, g2⟩
  clear CX2
  clear K0_1
  have SZ2 : Hid (w1.heap.size ≤ w2.heap.size) := Lib.hid g2.size
  have B_2 := Lib.hid (B_1.out.next g2)
  clear B_1
  have N0_2 := Lib.hid (N0_1.out.next g2)
  clear N0_1
  clear g2
  have CX3 := Lib.hid (uToI a0 n0 c0 xs0 w2 hb0 N0_2.out.here)
  go_wp2_with fail
  refine CX3.out.mono ?_
  rintro e w3 ⟨P0X, rfl, o3, g3⟩
  clear CX3
  have SZ3 : Hid (w2.heap.size ≤ w3.heap.size) := Lib.hid g3.size
  have B_3 := Lib.hid (B_2.out.next g3)
  clear B_2
  have N0_3 := Lib.hid (N0_2.out.next g3)
  clear N0_2
  have X0_3 := Lib.hid (Sp.row o3)
  clear g3 o3
  have CX4 := Lib.hid (CI.out w3 _ n0 (own_num (X0_3.out.here)))
  go_wp2_with fail
  refine CX4.out.mono ?_
  rintro e w4 ⟨rfl, g4⟩
  clear CX4
  have SZ4 : Hid (w3.heap.size ≤ w4.heap.size) := Lib.hid g4.size
  have B_4 := Lib.hid (B_3.out.next g4)
  clear B_3
  have N0_4 := Lib.hid (N0_3.out.next g4)
  clear N0_3
  have X0_4 := Lib.hid (X0_3.out.next g4)
  clear X0_3
  clear g4
  have CX5 := Lib.hid (uToI a0 n0 c0 xs0 w4 hb0 N0_4.out.here)
  go_wp2_with fail
  refine CX5.out.mono ?_
  rintro e w5 ⟨P0Y, rfl, o5, g5⟩
  clear CX5
  have SZ5 : Hid (w4.heap.size ≤ w5.heap.size) := Lib.hid g5.size
  have B_5 := Lib.hid (B_4.out.next g5)
  clear B_4
  have N0_5 := Lib.hid (N0_4.out.next g5)
  clear N0_4
  have X0_5 := Lib.hid (X0_4.out.next g5)
  clear X0_4
  have Y0_5 := Lib.hid (Sp.row o5)
  clear g5 o5
  have CX6 := Lib.hid (uEqI P0X P0Y n0 n0 n0 xs0 w5 hb0 (own_num (X0_5.out.here)) (own_num (Y0_5.out.here)))
  go_wp2_with fail
  refine CX6.out.mono ?_
  rintro e w6 ⟨rfl, g6⟩
  clear CX6
  clear Y0_5
  clear X0_5
  have SZ6 : Hid (w5.heap.size ≤ w6.heap.size) := Lib.hid g6.size
  have B_6 := Lib.hid (B_5.out.next g6)
  clear B_5
  have N0_6 := Lib.hid (N0_5.out.next g6)
  clear N0_5
  clear g6
  go_wp2_with fail
  go_ret
  exact ⟨rfl, B_6.out.here⟩
end Go.Proofs.Ytlogbgkbdjdkkaa
