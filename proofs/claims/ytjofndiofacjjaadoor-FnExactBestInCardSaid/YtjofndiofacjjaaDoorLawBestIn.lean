/-
  The law of BestIn: its call answers true.
-/
import Derived.Test.YtjofndiofacjjaaDoorSpS
import Derived.Test.YtjofndiofacjjaaDoorNmLaw
import Derived.Test.YtjofndiofacjjaaDoorNmMark
import Derived.Test.YtjofndiofacjjaaDoorBest9S
import Derived.Test.YtjofndiofacjjaaDoorBest9F
namespace Go.Proofs.YtjofndiofacjjaaDoor
set_option linter.unusedVariables false
open Go.RowKit

set_option maxHeartbeats 4000000 in
set_option maxRecDepth 100000 in
theorem wBestIn (a0 : Option Addr) (n0 c0 : Nat) (xs0 : List Nm) (a1 : Option Addr) (n1 c1 : Nat) (z1 : List ByteArray) (x2 : Int) (w : World) (hm0 : n0 ≤ maxLen) (hS0 : ∀ e ∈ xs0, e.t.size ≤ maxLen ∧ e.l.size ≤ maxLen) (hn0 : NmAt w w.heap.size a0 n0 xs0) (h1 : IsStrs w a1 n1 c1 z1) (hsh : w.ShapedOpen Tryd.prog) (her : Er8 w) :
    Calls Tryd.prog 7 #[.slice a0 n0 c0, .slice a1 n1 c1, .int .i64 x2] w fun e w' => e = .returned (.bool true) ∧ Below w.heap.size w w' := by
  have S0 : Hid (Calls Tryd.prog 16 #[.slice a0 n0 c0, .int .i64 1048576] w (SzN n0 xs0 w)) := Lib.hid (uSzN a0 n0 c0 xs0 w hm0 hS0 hn0)
  clear hS0
  have N0_0 := Lib.hid (Sp.nm hn0)
  clear hn0
  obtain ⟨hm1, hS1, hn1⟩ := textAt_arg h1
  clear h1
  obtain ⟨xs1, hxs1⟩ : ∃ xs, xs = z1.take n1 := ⟨_, rfl⟩
  rw [← hxs1] at hn1 hS1
  clear hxs1
  have HSX1 := Lib.hid hS1
  clear hS1
  have N1_0 := Lib.hid (Sp.text hn1)
  clear hn1
  have B_0 := Lib.hid (Sp.from_ w)
  have HSH : Hid (∀ W, Below w.heap.size w W → W.ShapedOpen Tryd.prog) := Lib.hid (fun W hW => shaped_below hsh hW)
  clear hsh
  have HER : Hid (∀ W, Below w.heap.size w W → Er8 W) := Lib.hid (fun W hW => her.below hW)
  clear her
  unfold maxLen at hm0
  unfold maxLen at hm1
  have CS : Hid (∀ (W : World) (A0 : Option Addr) (c0 : Nat) (A1 : Option Addr) (c1 : Nat), Below w.heap.size w W → n0 ≤ c0 → n1 ≤ c1 → n0 ≤ 1048576 → (∀ e ∈ xs0, e.t.size ≤ 1048576 ∧ e.l.size ≤ 1048576) → n1 ≤ 1048576 → (∀ x ∈ xs1, x.size ≤ 1048576) → NmAt W W.heap.size A0 n0 xs0 → TextAt W W.heap.size A1 n1 xs1 → Calls Tryd.prog 30 #[.slice A0 n0 c0, .slice A1 n1 c1, .int .i64 x2] W fun e w' => e = .returned (.tuple #[.int .i64 (beZ xs0 xs1 x2), .int .i64 (beC xs0 xs1 x2)]) ∧ Below W.heap.size W w') := Lib.hid (fun W A0 c0 A1 c1 hW hcap0 hcap1 hb0 hl0 hb1 hl1 N0 N1 => cBest_spec A0 A1 n0 c0 n1 c1 xs0 xs1 x2 W hb0 hb1 hl0 (fun x hx => by have := hl1 x hx; unfold maxLen; omega) N0 N1)
  have CI : Hid (∀ (W : World) (A0 : Option Addr) (c0 : Nat) (A1 : Option Addr) (c1 : Nat), Below w.heap.size w W → n0 ≤ c0 → n1 ≤ c1 → n0 ≤ 1048576 → (∀ e ∈ xs0, e.t.size ≤ 1048576 ∧ e.l.size ≤ 1048576) → n1 ≤ 1048576 → (∀ x ∈ xs1, x.size ≤ 1048576) → NmAt W W.heap.size A0 n0 xs0 → TextAt W W.heap.size A1 n1 xs1 → Calls Tryd.prog 32 #[.slice A0 n0 c0, .slice A1 n1 c1, .int .i64 x2] W fun e w' => e = .returned (.tuple #[.int .i64 (beZ xs0 xs1 x2), .int .i64 (beC xs0 xs1 x2)]) ∧ Below W.heap.size W w') := Lib.hid (fun W A0 c0 A1 c1 hW hcap0 hcap1 hb0 hl0 hb1 hl1 N0 N1 => cBest_impl A0 A1 n0 c0 n1 c1 xs0 xs1 x2 W hb0 hb1 hl0 (fun x hx => by have := hl1 x hx; unfold maxLen; omega) N0 hcap0 N1 (HSH.out W hW) (HER.out W hW))
  obtain ⟨v0, hv0⟩ : ∃ v, v = beZ xs0 xs1 x2 := ⟨_, rfl⟩
  rw [← hv0] at CS CI
  clear hv0
  obtain ⟨v1, hv1⟩ : ∃ v, v = beC xs0 xs1 x2 := ⟨_, rfl⟩
  rw [← hv1] at CS CI
  clear hv1
  have hd0 : (v0 != v0) = false := by simp
  have hd1 : (v1 != v1) = false := by simp
  go_enter Tryd.func7, Tryd.ntmps7
  go_wp2_with fail
  refine S0.out.mono ?_
  rintro e w1 ⟨r0, hr0, rfl, g1⟩
  by_cases hrn0 : r0 < 0
  · have hr1 := hr0.1
    clear hr0
    go_wp2_with fail
    go_ret
    exact ⟨rfl, g1⟩
  obtain ⟨hb0, hl0⟩ : n0 ≤ 1048576 ∧ ∀ e ∈ xs0, e.t.size ≤ 1048576 ∧ e.l.size ≤ 1048576 := by rcases hr0.2 with h | h; omega; exact h
  have hrs0 := hr0.1
  have hrz0 : 0 ≤ r0 := by omega
  have HLS0 := Lib.hid hl0
  clear hr0 hl0
  have SZ1 : Hid (w.heap.size ≤ w1.heap.size) := Lib.hid g1.size
  have B_1 := Lib.hid (B_0.out.next g1)
  clear B_0
  have N0_1 := Lib.hid (N0_0.out.next g1)
  clear N0_0
  have N1_1 := Lib.hid (N1_0.out.next g1)
  clear N1_0
  clear g1 S0
  have S1 := Lib.hid (fun (r : Int) h0 h1 => tSz2 a1 n1 c1 _ xs1 r h0 h1 w1 hm1 HSX1.out (N1_1.out.here))
  go_wp2_with fail
  refine (S1.out r0 hrz0 hrs0).mono ?_
  rintro e w' ⟨r1, hr1, rfl, rfl⟩
  by_cases hrn1 : r1 < 0
  · have hr1 := hr1.1
    clear hr1
    go_wp2_with fail
    go_ret
    exact ⟨rfl, B_1.out.here⟩
  obtain ⟨hb1, hl1⟩ : n1 ≤ 1048576 ∧ ∀ x ∈ xs1, x.size ≤ 1048576 := by rcases hr1.2 with h | h; omega; exact h
  have hrs1 := hr1.1
  have hrz1 : 0 ≤ r1 := by omega
  have HLS1 := Lib.hid hl1
  clear hr1 hl1 S1 HSX1
  have CX2 := Lib.hid (uToN a0 n0 c0 xs0 w1 hb0 N0_1.out.here)
  go_wp2_with fail
  refine CX2.out.mono ?_
  rintro e w2 ⟨P0K, rfl, o2, g2⟩
  clear CX2
  have SZ2 : Hid (w1.heap.size ≤ w2.heap.size) := Lib.hid g2.size
  have B_2 := Lib.hid (B_1.out.next g2)
  clear B_1
  have N0_2 := Lib.hid (N0_1.out.next g2)
  clear N0_1
  have N1_2 := Lib.hid (N1_1.out.next g2)
  clear N1_1
  have K0_2 := Lib.hid (Sp.row o2)
  clear g2 o2
  have CX3 := Lib.hid (uToS a1 n1 c1 xs1 w2 hb1 N1_2.out.here)
  go_wp2_with fail
  refine CX3.out.mono ?_
  rintro e w3 ⟨P1K, rfl, o3, g3⟩
  clear CX3
  have SZ3 : Hid (w2.heap.size ≤ w3.heap.size) := Lib.hid g3.size
  have B_3 := Lib.hid (B_2.out.next g3)
  clear B_2
  have N0_3 := Lib.hid (N0_2.out.next g3)
  clear N0_2
  have N1_3 := Lib.hid (N1_2.out.next g3)
  clear N1_2
  have K0_3 := Lib.hid (K0_2.out.next g3)
  clear K0_2
  have K1_3 := Lib.hid (Sp.row o3)
  clear g3 o3
  have CX4 := Lib.hid (CS.out w3 _ n0 _ n1 (B_3.out.here) (Nat.le_refl _) (Nat.le_refl _) hb0 HLS0.out hb1 HLS1.out (own_nm (K0_3.out.here)) (own_text (K1_3.out.here)))
  go_wp2_with fail
  refine CX4.out.mono ?_
  rintro e w4 ⟨rfl, g4⟩
  clear CX4
  clear K0_3
  clear K1_3
  have SZ4 : Hid (w3.heap.size ≤ w4.heap.size) := Lib.hid g4.size
  have B_4 := Lib.hid (B_3.out.next g4)
  clear B_3
  have N0_4 := Lib.hid (N0_3.out.next g4)
  clear N0_3
  have N1_4 := Lib.hid (N1_3.out.next g4)
  clear N1_3
  clear g4
  have CX5 := Lib.hid (uToN a0 n0 c0 xs0 w4 hb0 N0_4.out.here)
  go_wp2_with fail
  refine CX5.out.mono ?_
  rintro e w5 ⟨P0X, rfl, o5, g5⟩
  clear CX5
  have SZ5 : Hid (w4.heap.size ≤ w5.heap.size) := Lib.hid g5.size
  have B_5 := Lib.hid (B_4.out.next g5)
  clear B_4
  have N0_5 := Lib.hid (N0_4.out.next g5)
  clear N0_4
  have N1_5 := Lib.hid (N1_4.out.next g5)
  clear N1_4
  have X0_5 := Lib.hid (Sp.row o5)
  clear g5 o5
  have CX6 := Lib.hid (uToS a1 n1 c1 xs1 w5 hb1 N1_5.out.here)
  go_wp2_with fail
  refine CX6.out.mono ?_
  rintro e w6 ⟨P1X, rfl, o6, g6⟩
  clear CX6
  have SZ6 : Hid (w5.heap.size ≤ w6.heap.size) := Lib.hid g6.size
  have B_6 := Lib.hid (B_5.out.next g6)
  clear B_5
  have N0_6 := Lib.hid (N0_5.out.next g6)
  clear N0_5
  have N1_6 := Lib.hid (N1_5.out.next g6)
  clear N1_5
  have X0_6 := Lib.hid (X0_5.out.next g6)
  clear X0_5
  have X1_6 := Lib.hid (Sp.row o6)
  clear g6 o6
  have CX7 := Lib.hid (CI.out w6 _ n0 _ n1 (B_6.out.here) (Nat.le_refl _) (Nat.le_refl _) hb0 HLS0.out hb1 HLS1.out (own_nm (X0_6.out.here)) (own_text (X1_6.out.here)))
  go_wp2_with fail
  refine CX7.out.mono ?_
  rintro e w7 ⟨rfl, g7⟩
  clear CX7
  have SZ7 : Hid (w6.heap.size ≤ w7.heap.size) := Lib.hid g7.size
  have B_7 := Lib.hid (B_6.out.next g7)
  clear B_6
  have N0_7 := Lib.hid (N0_6.out.next g7)
  clear N0_6
  have N1_7 := Lib.hid (N1_6.out.next g7)
  clear N1_6
  have X0_7 := Lib.hid (X0_6.out.next g7)
  clear X0_6
  have X1_7 := Lib.hid (X1_6.out.next g7)
  clear X1_6
  clear g7
  have CX8 := Lib.hid (uToN a0 n0 c0 xs0 w7 hb0 N0_7.out.here)
  go_wp2_with fail
  refine CX8.out.mono ?_
  rintro e w8 ⟨P0Y, rfl, o8, g8⟩
  clear CX8
  have SZ8 : Hid (w7.heap.size ≤ w8.heap.size) := Lib.hid g8.size
  have B_8 := Lib.hid (B_7.out.next g8)
  clear B_7
  have N0_8 := Lib.hid (N0_7.out.next g8)
  clear N0_7
  have N1_8 := Lib.hid (N1_7.out.next g8)
  clear N1_7
  have X0_8 := Lib.hid (X0_7.out.next g8)
  clear X0_7
  have X1_8 := Lib.hid (X1_7.out.next g8)
  clear X1_7
  have Y0_8 := Lib.hid (Sp.row o8)
  clear g8 o8
  have CX9 := Lib.hid (uEqN P0X P0Y n0 n0 n0 xs0 w8 hb0 (own_nm (X0_8.out.here)) (own_nm (Y0_8.out.here)))
  go_wp2_with fail
  refine CX9.out.mono ?_
  rintro e w9 ⟨rfl, g9⟩
  clear CX9
  clear Y0_8
  clear X0_8
  have SZ9 : Hid (w8.heap.size ≤ w9.heap.size) := Lib.hid g9.size
  have B_9 := Lib.hid (B_8.out.next g9)
  clear B_8
  have N0_9 := Lib.hid (N0_8.out.next g9)
  clear N0_8
  have N1_9 := Lib.hid (N1_8.out.next g9)
  clear N1_8
  have X1_9 := Lib.hid (X1_8.out.next g9)
  clear X1_8
  clear g9
  have CX10 := Lib.hid (uToS a1 n1 c1 xs1 w9 hb1 N1_9.out.here)
  go_wp2_with fail
  refine CX10.out.mono ?_
  rintro e w10 ⟨P1Y, rfl, o10, g10⟩
  clear CX10
  have SZ10 : Hid (w9.heap.size ≤ w10.heap.size) := Lib.hid g10.size
  have B_10 := Lib.hid (B_9.out.next g10)
  clear B_9
  have N0_10 := Lib.hid (N0_9.out.next g10)
  clear N0_9
  have N1_10 := Lib.hid (N1_9.out.next g10)
  clear N1_9
  have X1_10 := Lib.hid (X1_9.out.next g10)
  clear X1_9
  have Y1_10 := Lib.hid (Sp.row o10)
  clear g10 o10
  have CX11 := Lib.hid (uEqS P1X P1Y n1 n1 n1 _ _ xs1 w10 hb1 (X1_10.out.here) (Y1_10.out.here))
  go_wp2_with fail
  refine CX11.out.mono ?_
  rintro e w11 ⟨rfl, g11⟩
  clear CX11
  clear Y1_10
  clear X1_10
  have SZ11 : Hid (w10.heap.size ≤ w11.heap.size) := Lib.hid g11.size
  have B_11 := Lib.hid (B_10.out.next g11)
  clear B_10
  have N0_11 := Lib.hid (N0_10.out.next g11)
  clear N0_10
  have N1_11 := Lib.hid (N1_10.out.next g11)
  clear N1_10
  clear g11
  go_wp2_with fail
  go_ret
  exact ⟨rfl, B_11.out.here⟩
end Go.Proofs.YtjofndiofacjjaaDoor
