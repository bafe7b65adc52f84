/-
  The law of PlacesOfKind: its call answers true.
-/
import Derived.Test.YtglmibmjbignbaaGreatDoorMz20
import Derived.Test.YtglmibmjbignbaaGreatDoorMz23
import Derived.Test.YtglmibmjbignbaaGreatDoorMz13
import Derived.Test.YtglmibmjbignbaaGreatDoorMz31
import Derived.Test.YtglmibmjbignbaaGreatDoorPlKdS
namespace Go.Proofs.YtglmibmjbignbaaGreatDoor
set_option linter.unusedVariables false
open Go.RowKit

set_option maxHeartbeats 4000000 in
set_option maxRecDepth 100000 in
theorem wPlKd (a0 : Option Addr) (n0 c0 : Nat) (xs0 : List Pl) (a1 : Option Addr) (n1 c1 : Nat) (z1 : List Int) (x2 : Int) (x3 : Int) (w : World) (hm0 : n0 ≤ maxLen) (hS0 : ∀ p ∈ xs0, SzL p) (hn0 : PlAt w w.heap.size a0 n0 xs0) (h1 : IsInts .i64 w a1 n1 c1 z1) (hsh : w.ShapedOpen Tryz.prog) (her : Er6 w) :
    Calls Tryz.prog 6 #[.slice a0 n0 c0, .slice a1 n1 c1, .int .i64 x2, .int .i64 x3] w fun e w' => e = .returned (.bool true) ∧ Below w.heap.size w w' := by
  have S0 : Hid (Calls Tryz.prog 40 #[.slice a0 n0 c0, .int .i64 1048576] w (Left (n0 + totPs xs0) 1048576 w)) := Lib.hid (uSzPl a0 n0 c0 xs0 1048576 w (by omega) (by omega) hm0 hS0 hn0)
  clear hS0
  have N0_0 := Lib.hid (Sp.pl hn0)
  clear hn0
  obtain ⟨hm1, hn1⟩ := numAt_arg h1
  clear h1
  obtain ⟨xs1, hxs1⟩ : ∃ xs, xs = z1.take n1 := ⟨_, rfl⟩
  rw [← hxs1] at hn1
  clear hxs1
  have N1_0 := Lib.hid (Sp.num hn1)
  clear hn1
  have B_0 := Lib.hid ((Sp.from_ w))
  have HSH : Hid (∀ W, Below w.heap.size w W → W.ShapedOpen Tryz.prog) := Lib.hid (fun W hW => shaped_below hsh hW)
  clear hsh
  have HER : Hid (∀ W, Below w.heap.size w W → Er6 W) := Lib.hid (fun W hW => her.below hW)
  clear her
  unfold maxLen at hm0
  unfold maxLen at hm1
  by_cases hbig1 : 1048576 < n1
  · go_enter Tryz.func6, Tryz.ntmps6
    go_wp2_with fail
    go_ret
    exact ⟨rfl, Below.refl _ _⟩
  have hb1 : n1 ≤ 1048576 := by omega
  obtain ⟨N0r, hN0r⟩ : ∃ N, N = (pkZ xs0 xs1 x2 x3).length := ⟨_, rfl⟩
  have HL0 : Hid (N0r ≤ 1048576) := Lib.hid (by rw [hN0r]; exact pkZ_len xs0 xs1 x2 x3)
  have CS : Hid (∀ (W : World) (A0 : Option Addr) (c0 : Nat) (A1 : Option Addr) (c1 : Nat), Below w.heap.size w W → n0 ≤ c0 → n1 ≤ c1 → n0 ≤ 1048576 → Sz11 xs0 → PlAt W W.heap.size A0 n0 xs0 → NumAt W W.heap.size A1 n1 xs1 → Calls Tryz.prog 34 #[.slice A0 n0 c0, .slice A1 n1 c1, .int .i64 x2, .int .i64 x3] W (OutT11 (pkZ xs0 xs1 x2 x3) (pkC xs0 xs1 x2 x3) W)) := Lib.hid (fun W A0 c0 A1 c1 hW hcap0 hcap1 hb0 hl0 N0 N1 => cKd_spec A0 A1 n0 c0 n1 c1 xs0 xs1 x2 x3 W hb0 hb1 hl0 N0 N1)
  have CI : Hid (∀ (W : World) (A0 : Option Addr) (c0 : Nat) (A1 : Option Addr) (c1 : Nat), Below w.heap.size w W → n0 ≤ c0 → n1 ≤ c1 → n0 ≤ 1048576 → Sz11 xs0 → PlAt W W.heap.size A0 n0 xs0 → NumAt W W.heap.size A1 n1 xs1 → Calls Tryz.prog 33 #[.slice A0 n0 c0, .slice A1 n1 c1, .int .i64 x2, .int .i64 x3] W (OutT11 (pkZ xs0 xs1 x2 x3) (pkC xs0 xs1 x2 x3) W)) := Lib.hid (fun W A0 c0 A1 c1 hW hcap0 hcap1 hb0 hl0 N0 N1 => cKd_impl A0 A1 n0 c0 n1 c1 xs0 xs1 x2 x3 W hb0 hb1 hl0 N0 N1 (HSH.out W hW) (HER.out W hW))
  obtain ⟨v0, hv0⟩ : ∃ v, v = pkZ xs0 xs1 x2 x3 := ⟨_, rfl⟩
  rw [← hv0] at CS CI hN0r
  have HN0 := Lib.hid hN0r
  clear hN0r
  clear hv0
  obtain ⟨v1, hv1⟩ : ∃ v, v = pkC xs0 xs1 x2 x3 := ⟨_, rfl⟩
  rw [← hv1] at CS CI
  clear hv1
  have hd1 : (v1 != v1) = false := by simp
  go_enter Tryz.func6, Tryz.ntmps6
  go_wp2_with fail
  refine S0.out.mono ?_
  rintro e w1 ⟨r0, hr0, rfl, g1⟩
  by_cases hrn0 : r0 < 0
  · have hr1 : r0 ≤ 1048576 := by omega
    clear hr0
    go_wp2_with fail
    go_ret
    exact ⟨rfl, g1⟩
  have ht0 : r0 + ((n0 + totPs xs0 : Nat) : Int) = 1048576 := by rcases hr0 with h | h; omega; exact h.2
  have hb0 : n0 ≤ 1048576 := by omega
  have hl0 : Sz11 xs0 := sz_of_tots (by omega)
  have HTT0 : Hid (n0 + totPs xs0 ≤ 1048576) := Lib.hid (by omega)
  have hrs0 : r0 ≤ 1048576 := by omega
  have hrz0 : 0 ≤ r0 := by omega
  have HLS0 := Lib.hid hl0
  clear hr0 hl0 ht0
  have SZ1 : Hid (w.heap.size ≤ w1.heap.size) := Lib.hid g1.size
  have B_1 := Lib.hid (B_0.out.next g1)
  clear B_0
  have N0_1 := Lib.hid (N0_0.out.next g1)
  clear N0_0
  have N1_1 := Lib.hid (N1_0.out.next g1)
  clear N1_0
  clear g1 S0
  have CX2 := Lib.hid (uToPl a0 n0 c0 xs0 w1 hb0 HLS0.out (N0_1.out.here))
  go_wp2_with fail
  refine CX2.out.mono ?_
  rintro e w2 ⟨P0K, es0K, rfl, he2, o2, g2⟩
  clear CX2
  have HE0K := Lib.hid he2
  clear he2
  have SZ2 : Hid (w1.heap.size ≤ w2.heap.size) := Lib.hid g2.size
  have B_2 := Lib.hid (B_1.out.next g2)
  clear B_1
  have N0_2 := Lib.hid (N0_1.out.next g2)
  clear N0_1
  have N1_2 := Lib.hid (N1_1.out.next g2)
  clear N1_1
  have K0_2 := Lib.hid (Sp.own o2 (Nat.le_refl _))
  clear g2 o2
  have CX3 := Lib.hid (uToI a1 n1 c1 xs1 w2 hb1 N1_2.out.here)
  go_wp2_with fail
  refine CX3.out.mono ?_
  rintro e w3 ⟨P1K, rfl, o3, g3⟩
  clear CX3
  have SZ3 : Hid (w2.heap.size ≤ w3.heap.size) := Lib.hid g3.size
  have B_3 := Lib.hid (B_2.out.next g3)
  clear B_2
  have N0_3 := Lib.hid (N0_2.out.next g3)
  clear N0_2
  have N1_3 := Lib.hid (N1_2.out.next g3)
  clear N1_2
  have K0_3 := Lib.hid (K0_2.out.next g3)
  clear K0_2
  have K1_3 := Lib.hid (Sp.row o3)
  clear g3 o3
  have CX4 := Lib.hid (CS.out w3 _ n0 _ n1 (B_3.out.here) (Nat.le_refl _) (Nat.le_refl _) hb0 HLS0.out (own_pl2 (K0_3.out.here) HE0K.out) (own_num (K1_3.out.here)))
  go_wp2_with fail
  refine CX4.out.mono ?_
  rintro e w4 ⟨A0R, m0R, d0R, rfl, o4R0, g4⟩
  clear CX4
  obtain rfl : N0r = m0R := by rw [HN0.out]; have h1 := o4R0.1; rw [strV_len] at h1; omega
  clear K0_3
  clear K1_3
  have SZ4 : Hid (w3.heap.size ≤ w4.heap.size) := Lib.hid g4.size
  have B_4 := Lib.hid (B_3.out.next g4)
  clear B_3
  have N0_4 := Lib.hid (N0_3.out.next g4)
  clear N0_3
  have N1_4 := Lib.hid (N1_3.out.next g4)
  clear N1_3
  have R0_4 := Lib.hid (Sp.row o4R0)
  clear g4 o4R0
  have CX5 := Lib.hid (uToPl a0 n0 c0 xs0 w4 hb0 HLS0.out (N0_4.out.here))
  go_wp2_with fail
  refine CX5.out.mono ?_
  rintro e w5 ⟨P0X, es0X, rfl, he5, o5, g5⟩
  clear CX5
  have HE0X := Lib.hid he5
  clear he5
  have SZ5 : Hid (w4.heap.size ≤ w5.heap.size) := Lib.hid g5.size
  have B_5 := Lib.hid (B_4.out.next g5)
  clear B_4
  have N0_5 := Lib.hid (N0_4.out.next g5)
  clear N0_4
  have N1_5 := Lib.hid (N1_4.out.next g5)
  clear N1_4
  have R0_5 := Lib.hid (R0_4.out.next g5)
  clear R0_4
  have X0_5 := Lib.hid (Sp.own o5 (Nat.le_refl _))
  clear g5 o5
  have CX6 := Lib.hid (uToI a1 n1 c1 xs1 w5 hb1 N1_5.out.here)
  go_wp2_with fail
  refine CX6.out.mono ?_
  rintro e w6 ⟨P1X, rfl, o6, g6⟩
  clear CX6
  have SZ6 : Hid (w5.heap.size ≤ w6.heap.size) := Lib.hid g6.size
  have B_6 := Lib.hid (B_5.out.next g6)
  clear B_5
  have N0_6 := Lib.hid (N0_5.out.next g6)
  clear N0_5
  have N1_6 := Lib.hid (N1_5.out.next g6)
  clear N1_5
  have R0_6 := Lib.hid (R0_5.out.next g6)
  clear R0_5
  have X0_6 := Lib.hid (X0_5.out.next g6)
  clear X0_5
  have X1_6 := Lib.hid (Sp.row o6)
  clear g6 o6
  have LTX1 : Hid (∀ k, (Value.slice P1X n1 n1).ownBlock = some k → w5.heap.size ≤ k ∧ k < w6.heap.size) := Lib.hid (own_range (X1_6.out.here))
  have CX7 := Lib.hid (CI.out w6 _ n0 _ n1 (B_6.out.here) (Nat.le_refl _) (Nat.le_refl _) hb0 HLS0.out (own_pl2 (X0_6.out.here) HE0X.out) (own_num (X1_6.out.here)))
  go_wp2_with fail
  refine CX7.out.mono ?_
  rintro e w7 ⟨A0G, m0G, d0G, rfl, o7G0, g7⟩
  clear CX7
  obtain rfl : N0r = m0G := by rw [HN0.out]; have h1 := o7G0.1; rw [strV_len] at h1; omega
  have SZ7 : Hid (w6.heap.size ≤ w7.heap.size) := Lib.hid g7.size
  have B_7 := Lib.hid (B_6.out.next g7)
  clear B_6
  have N0_7 := Lib.hid (N0_6.out.next g7)
  clear N0_6
  have N1_7 := Lib.hid (N1_6.out.next g7)
  clear N1_6
  have R0_7 := Lib.hid (R0_6.out.next g7)
  clear R0_6
  have X0_7 := Lib.hid (X0_6.out.next g7)
  clear X0_6
  have X1_7 := Lib.hid (X1_6.out.next g7)
  clear X1_6
  have G0_7 := Lib.hid (Sp.row o7G0)
  clear g7 o7G0
  have LTG0 : Hid (∀ k, (Value.slice A0G N0r d0G).ownBlock = some k → w6.heap.size ≤ k ∧ k < w7.heap.size) := Lib.hid (own_range (G0_7.out.here))
  have CX8 := Lib.hid (uEqS A0G A0R d0G d0R N0r _ _ v0 w7 HL0.out (G0_7.out.here) (R0_7.out.here))
  go_wp2_with fail
  refine CX8.out.mono ?_
  rintro e w8 ⟨rfl, g8⟩
  clear CX8
  have SZ8 : Hid (w7.heap.size ≤ w8.heap.size) := Lib.hid g8.size
  have B_8 := Lib.hid (B_7.out.next g8)
  clear B_7
  have N0_8 := Lib.hid (N0_7.out.next g8)
  clear N0_7
  have N1_8 := Lib.hid (N1_7.out.next g8)
  clear N1_7
  have R0_8 := Lib.hid (R0_7.out.next g8)
  clear R0_7
  have X0_8 := Lib.hid (X0_7.out.next g8)
  clear X0_7
  have X1_8 := Lib.hid (X1_7.out.next g8)
  clear X1_7
  have G0_8 := Lib.hid (G0_7.out.next g8)
  clear G0_7
  clear g8
  have CX9 := Lib.hid (uToPl a0 n0 c0 xs0 w8 hb0 HLS0.out (N0_8.out.here))
  go_wp2_with fail
  refine CX9.out.mono ?_
  rintro e w9 ⟨P0Y, es0Y, rfl, he9, o9, g9⟩
  clear CX9
  have HE0Y := Lib.hid he9
  clear he9
  have SZ9 : Hid (w8.heap.size ≤ w9.heap.size) := Lib.hid g9.size
  have B_9 := Lib.hid (B_8.out.next g9)
  clear B_8
  have N0_9 := Lib.hid (N0_8.out.next g9)
  clear N0_8
  have N1_9 := Lib.hid (N1_8.out.next g9)
  clear N1_8
  have R0_9 := Lib.hid (R0_8.out.next g9)
  clear R0_8
  have X0_9 := Lib.hid (X0_8.out.next g9)
  clear X0_8
  have X1_9 := Lib.hid (X1_8.out.next g9)
  clear X1_8
  have G0_9 := Lib.hid (G0_8.out.next g9)
  clear G0_8
  have Y0_9 := Lib.hid (Sp.own o9 (Nat.le_refl _))
  clear g9 o9
  have CX10 := Lib.hid (uEqPl P0X P0Y n0 n0 n0 xs0 w9 hb0 HLS0.out (own_pl2 (X0_9.out.here) HE0X.out) (own_pl2 (Y0_9.out.here) HE0Y.out))
  go_wp2_with fail
  refine CX10.out.mono ?_
  rintro e w10 ⟨rfl, g10⟩
  clear CX10
  clear Y0_9
  have SZ10 : Hid (w9.heap.size ≤ w10.heap.size) := Lib.hid g10.size
  have B_10 := Lib.hid (B_9.out.next g10)
  clear B_9
  have N0_10 := Lib.hid (N0_9.out.next g10)
  clear N0_9
  have N1_10 := Lib.hid (N1_9.out.next g10)
  clear N1_9
  have R0_10 := Lib.hid (R0_9.out.next g10)
  clear R0_9
  have X0_10 := Lib.hid (X0_9.out.next g10)
  clear X0_9
  have X1_10 := Lib.hid (X1_9.out.next g10)
  clear X1_9
  have G0_10 := Lib.hid (G0_9.out.next g10)
  clear G0_9
  clear g10
  have CX11 := Lib.hid (uToI a1 n1 c1 xs1 w10 hb1 N1_10.out.here)
  go_wp2_with fail
  refine CX11.out.mono ?_
  rintro e w11 ⟨P1Y, rfl, o11, g11⟩
  clear CX11
  have SZ11 : Hid (w10.heap.size ≤ w11.heap.size) := Lib.hid g11.size
  have B_11 := Lib.hid (B_10.out.next g11)
  clear B_10
  have N0_11 := Lib.hid (N0_10.out.next g11)
  clear N0_10
  have N1_11 := Lib.hid (N1_10.out.next g11)
  clear N1_10
  have R0_11 := Lib.hid (R0_10.out.next g11)
  clear R0_10
  have X0_11 := Lib.hid (X0_10.out.next g11)
  clear X0_10
  have X1_11 := Lib.hid (X1_10.out.next g11)
  clear X1_10
  have G0_11 := Lib.hid (G0_10.out.next g11)
  clear G0_10
  have Y1_11 := Lib.hid (Sp.row o11)
  clear g11 o11
  have CX12 := Lib.hid (uEqI P1X P1Y n1 n1 n1 xs1 w11 hb1 (own_num (X1_11.out.here)) (own_num (Y1_11.out.here)))
  go_wp2_with fail
  refine CX12.out.mono ?_
  rintro e w12 ⟨rfl, g12⟩
  clear CX12
  clear Y1_11
  have SZ12 : Hid (w11.heap.size ≤ w12.heap.size) := Lib.hid g12.size
  have B_12 := Lib.hid (B_11.out.next g12)
  clear B_11
  have N0_12 := Lib.hid (N0_11.out.next g12)
  clear N0_11
  have N1_12 := Lib.hid (N1_11.out.next g12)
  clear N1_11
  have R0_12 := Lib.hid (R0_11.out.next g12)
  clear R0_11
  have X0_12 := Lib.hid (X0_11.out.next g12)
  clear X0_11
  have X1_12 := Lib.hid (X1_11.out.next g12)
  clear X1_11
  have G0_12 := Lib.hid (G0_11.out.next g12)
  clear G0_11
  clear g12
  have hw0 : wideL es0X ≤ 5 * 1048576 := by have h1 := wide_tot es0X; rw [HE0X.out] at h1; have h2 := HTT0.out; have h3 := congrArg List.length HE0X.out; rw [plsOf_len] at h3; have h4 := (X0_12.out.here).len; omega
  have CX13 := Lib.hid (show Calls Tryz.prog 44 #[.slice P0X n0 n0, .int .i64 1] _ _ from uMarkPl _ _ P0X n0 n0 (1) es0X w12 (by omega) (by omega) hb0 (fun e he => (HLS0.out e.p (by rw [← HE0X.out]; exact List.mem_map_of_mem he)).2.1) (X0_12.out.here))
  go_wp2_with fail
  refine CX13.out.mono ?_
  rintro e w13 ⟨rfl, o13m, g13⟩
  clear CX13
  clear X0_12
  have SZ13 : Hid (w12.heap.size ≤ w13.heap.size) := Lib.hid g13.size
  have B_13 := Lib.hid (B_12.out.markI g13 (by have s0 := SZ1.out; have s1 := SZ2.out; have s2 := SZ3.out; have s3 := SZ4.out; have s4 := SZ5.out; have s5 := SZ6.out; have s6 := SZ7.out; have s7 := SZ8.out; have s8 := SZ9.out; have s9 := SZ10.out; have s10 := SZ11.out; have s11 := SZ12.out; have s12 := SZ13.out; have h1 := True.intro; omega))
  clear B_12
  have N0_13 := Lib.hid (N0_12.out.markI g13 (by have s0 := SZ1.out; have s1 := SZ2.out; have s2 := SZ3.out; have s3 := SZ4.out; have s4 := SZ5.out; have s5 := SZ6.out; have s6 := SZ7.out; have s7 := SZ8.out; have s8 := SZ9.out; have s9 := SZ10.out; have s10 := SZ11.out; have s11 := SZ12.out; have s12 := SZ13.out; have h1 := True.intro; omega))
  clear N0_12
  have N1_13 := Lib.hid (N1_12.out.markI g13 (by have s0 := SZ1.out; have s1 := SZ2.out; have s2 := SZ3.out; have s3 := SZ4.out; have s4 := SZ5.out; have s5 := SZ6.out; have s6 := SZ7.out; have s7 := SZ8.out; have s8 := SZ9.out; have s9 := SZ10.out; have s10 := SZ11.out; have s11 := SZ12.out; have s12 := SZ13.out; have h1 := True.intro; omega))
  clear N1_12
  have R0_13 := Lib.hid (R0_12.out.markI g13 (by have s0 := SZ1.out; have s1 := SZ2.out; have s2 := SZ3.out; have s3 := SZ4.out; have s4 := SZ5.out; have s5 := SZ6.out; have s6 := SZ7.out; have s7 := SZ8.out; have s8 := SZ9.out; have s9 := SZ10.out; have s10 := SZ11.out; have s11 := SZ12.out; have s12 := SZ13.out; have h1 := True.intro; omega))
  clear R0_12
  have X1_13 := Lib.hid (X1_12.out.markI g13 (by have s0 := SZ1.out; have s1 := SZ2.out; have s2 := SZ3.out; have s3 := SZ4.out; have s4 := SZ5.out; have s5 := SZ6.out; have s6 := SZ7.out; have s7 := SZ8.out; have s8 := SZ9.out; have s9 := SZ10.out; have s10 := SZ11.out; have s11 := SZ12.out; have s12 := SZ13.out; have h1 := True.intro; omega))
  clear X1_12
  have G0_13 := Lib.hid (G0_12.out.markI g13 (by have s0 := SZ1.out; have s1 := SZ2.out; have s2 := SZ3.out; have s3 := SZ4.out; have s4 := SZ5.out; have s5 := SZ6.out; have s6 := SZ7.out; have s7 := SZ8.out; have s8 := SZ9.out; have s9 := SZ10.out; have s10 := SZ11.out; have s11 := SZ12.out; have s12 := SZ13.out; have h1 := True.intro; omega))
  clear G0_12
  clear g13 o13m
  have CX14 := Lib.hid (show Calls Tryz.prog 49 #[.slice P1X n1 n1, .int .i64 ((1 + wideL es0X : Nat) : Int)] _ _ from uMarkI _ P1X n1 n1 (1 + wideL es0X) xs1 w13 (by omega) hb1 (X1_13.out.here))
  go_wp2_with fail
  refine CX14.out.mono ?_
  rintro e w14 ⟨rfl, o14m, g14⟩
  clear CX14
  clear X1_13
  have SZ14 : Hid (w13.heap.size ≤ w14.heap.size) := Lib.hid g14.size
  have B_14 := Lib.hid (B_13.out.mark g14 (fun k hk => by have h1 := LTX1.out k hk; have s0 := SZ1.out; have s1 := SZ2.out; have s2 := SZ3.out; have s3 := SZ4.out; have s4 := SZ5.out; have s5 := SZ6.out; have s6 := SZ7.out; have s7 := SZ8.out; have s8 := SZ9.out; have s9 := SZ10.out; have s10 := SZ11.out; have s11 := SZ12.out; have s12 := SZ13.out; have s13 := SZ14.out; omega))
  clear B_13
  have N0_14 := Lib.hid (N0_13.out.mark g14 (fun k hk => by have h1 := LTX1.out k hk; have s0 := SZ1.out; have s1 := SZ2.out; have s2 := SZ3.out; have s3 := SZ4.out; have s4 := SZ5.out; have s5 := SZ6.out; have s6 := SZ7.out; have s7 := SZ8.out; have s8 := SZ9.out; have s9 := SZ10.out; have s10 := SZ11.out; have s11 := SZ12.out; have s12 := SZ13.out; have s13 := SZ14.out; omega))
  clear N0_13
  have N1_14 := Lib.hid (N1_13.out.mark g14 (fun k hk => by have h1 := LTX1.out k hk; have s0 := SZ1.out; have s1 := SZ2.out; have s2 := SZ3.out; have s3 := SZ4.out; have s4 := SZ5.out; have s5 := SZ6.out; have s6 := SZ7.out; have s7 := SZ8.out; have s8 := SZ9.out; have s9 := SZ10.out; have s10 := SZ11.out; have s11 := SZ12.out; have s12 := SZ13.out; have s13 := SZ14.out; omega))
  clear N1_13
  have R0_14 := Lib.hid (R0_13.out.mark g14 (fun k hk => by have h1 := LTX1.out k hk; have s0 := SZ1.out; have s1 := SZ2.out; have s2 := SZ3.out; have s3 := SZ4.out; have s4 := SZ5.out; have s5 := SZ6.out; have s6 := SZ7.out; have s7 := SZ8.out; have s8 := SZ9.out; have s9 := SZ10.out; have s10 := SZ11.out; have s11 := SZ12.out; have s12 := SZ13.out; have s13 := SZ14.out; omega))
  clear R0_13
  have G0_14 := Lib.hid (G0_13.out.mark g14 (fun k hk => by have h1 := LTX1.out k hk; have s0 := SZ1.out; have s1 := SZ2.out; have s2 := SZ3.out; have s3 := SZ4.out; have s4 := SZ5.out; have s5 := SZ6.out; have s6 := SZ7.out; have s7 := SZ8.out; have s8 := SZ9.out; have s9 := SZ10.out; have s10 := SZ11.out; have s11 := SZ12.out; have s12 := SZ13.out; have s13 := SZ14.out; omega))
  clear G0_13
  clear g14 o14m
  have hkk : ¬ ((1 + wideL es0X + n1 : Nat) : Int) < 0 := by omega
  have CX15 := Lib.hid (uEqS A0G A0R d0G d0R N0r _ _ v0 w14 HL0.out (G0_14.out.here) (R0_14.out.here))
  go_wp2_with fail
  refine CX15.out.mono ?_
  rintro e w15 ⟨rfl, g15⟩
  clear CX15
  have SZ15 : Hid (w14.heap.size ≤ w15.heap.size) := Lib.hid g15.size
  have B_15 := Lib.hid (B_14.out.next g15)
  clear B_14
  have N0_15 := Lib.hid (N0_14.out.next g15)
  clear N0_14
  have N1_15 := Lib.hid (N1_14.out.next g15)
  clear N1_14
  have R0_15 := Lib.hid (R0_14.out.next g15)
  clear R0_14
  have G0_15 := Lib.hid (G0_14.out.next g15)
  clear G0_14
  clear g15
  clear hkk
  have CX16 := Lib.hid (show Calls Tryz.prog 45 #[.slice A0G N0r d0G, .int .i64 1] _ _ from uMarkS2 _ A0G N0r d0G (1) _ w15 (by omega) (by omega) HL0.out (G0_15.out.here))
  go_wp2_with fail
  refine CX16.out.mono ?_
  rintro e w16 ⟨rfl, o16m, g16⟩
  clear CX16
  clear G0_15
  have SZ16 : Hid (w15.heap.size ≤ w16.heap.size) := Lib.hid g16.size
  have B_16 := Lib.hid (B_15.out.mark g16 (fun k hk => by have h1 := LTG0.out k hk; have s0 := SZ1.out; have s1 := SZ2.out; have s2 := SZ3.out; have s3 := SZ4.out; have s4 := SZ5.out; have s5 := SZ6.out; have s6 := SZ7.out; have s7 := SZ8.out; have s8 := SZ9.out; have s9 := SZ10.out; have s10 := SZ11.out; have s11 := SZ12.out; have s12 := SZ13.out; have s13 := SZ14.out; have s14 := SZ15.out; have s15 := SZ16.out; omega))
  clear B_15
  have N0_16 := Lib.hid (N0_15.out.mark g16 (fun k hk => by have h1 := LTG0.out k hk; have s0 := SZ1.out; have s1 := SZ2.out; have s2 := SZ3.out; have s3 := SZ4.out; have s4 := SZ5.out; have s5 := SZ6.out; have s6 := SZ7.out; have s7 := SZ8.out; have s8 := SZ9.out; have s9 := SZ10.out; have s10 := SZ11.out; have s11 := SZ12.out; have s12 := SZ13.out; have s13 := SZ14.out; have s14 := SZ15.out; have s15 := SZ16.out; omega))
  clear N0_15
  have N1_16 := Lib.hid (N1_15.out.mark g16 (fun k hk => by have h1 := LTG0.out k hk; have s0 := SZ1.out; have s1 := SZ2.out; have s2 := SZ3.out; have s3 := SZ4.out; have s4 := SZ5.out; have s5 := SZ6.out; have s6 := SZ7.out; have s7 := SZ8.out; have s8 := SZ9.out; have s9 := SZ10.out; have s10 := SZ11.out; have s11 := SZ12.out; have s12 := SZ13.out; have s13 := SZ14.out; have s14 := SZ15.out; have s15 := SZ16.out; omega))
  clear N1_15
  have R0_16 := Lib.hid (R0_15.out.mark g16 (fun k hk => by have h1 := LTG0.out k hk; have s0 := SZ1.out; have s1 := SZ2.out; have s2 := SZ3.out; have s3 := SZ4.out; have s4 := SZ5.out; have s5 := SZ6.out; have s6 := SZ7.out; have s7 := SZ8.out; have s8 := SZ9.out; have s9 := SZ10.out; have s10 := SZ11.out; have s11 := SZ12.out; have s12 := SZ13.out; have s13 := SZ14.out; have s14 := SZ15.out; have s15 := SZ16.out; omega))
  clear R0_15
  have M0_16 := Lib.hid (Sp.again (hi := w7.heap.size) o16m (fun k hk => (LTG0.out k hk).2) (by have s0 := SZ1.out; have s1 := SZ2.out; have s2 := SZ3.out; have s3 := SZ4.out; have s4 := SZ5.out; have s5 := SZ6.out; have s6 := SZ7.out; have s7 := SZ8.out; have s8 := SZ9.out; have s9 := SZ10.out; have s10 := SZ11.out; have s11 := SZ12.out; have s12 := SZ13.out; have s13 := SZ14.out; have s14 := SZ15.out; have s0 := SZ16.out; omega))
  clear g16 o16m
  have CX17 := Lib.hid (show Calls Tryz.prog 46 #[.slice A0G N0r d0G, .int .i64 1] _ _ from uHeldS2 _ A0G N0r d0G (1) w16 (by omega) (by omega) HL0.out (M0_16.out.here))
  go_wp2_with fail
  refine CX17.out.mono ?_
  rintro e w17 ⟨rfl, g17⟩
  clear CX17
  have SZ17 : Hid (w16.heap.size ≤ w17.heap.size) := Lib.hid g17.size
  have B_17 := Lib.hid (B_16.out.next g17)
  clear B_16
  have N0_17 := Lib.hid (N0_16.out.next g17)
  clear N0_16
  have N1_17 := Lib.hid (N1_16.out.next g17)
  clear N1_16
  have R0_17 := Lib.hid (R0_16.out.next g17)
  clear R0_16
  have M0_17 := Lib.hid (M0_16.out.next g17)
  clear M0_16
  clear g17
  have hq17 : ¬ ((1 + N0r : Nat) : Int) < 0 := by omega
  have hqm17 : (((1 + N0r : Nat) : Int) != ((1 + N0r : Nat) : Int)) = false := by simp
  have CX18 := Lib.hid (uToPl a0 n0 c0 xs0 w17 hb0 HLS0.out (N0_17.out.here))
  go_wp2_with fail
  refine CX18.out.mono ?_
  rintro e w18 ⟨P0Z, es0Z, rfl, he18, o18, g18⟩
  clear CX18
  have HE0Z := Lib.hid he18
  clear he18
  have SZ18 : Hid (w17.heap.size ≤ w18.heap.size) := Lib.hid g18.size
  have B_18 := Lib.hid (B_17.out.next g18)
  clear B_17
  have N0_18 := Lib.hid (N0_17.out.next g18)
  clear N0_17
  have N1_18 := Lib.hid (N1_17.out.next g18)
  clear N1_17
  have R0_18 := Lib.hid (R0_17.out.next g18)
  clear R0_17
  have M0_18 := Lib.hid (M0_17.out.next g18)
  clear M0_17
  have Z0_18 := Lib.hid (Sp.own o18 (Nat.le_refl _))
  clear g18 o18
  have CX19 := Lib.hid (uToI a1 n1 c1 xs1 w18 hb1 N1_18.out.here)
  go_wp2_with fail
  refine CX19.out.mono ?_
  rintro e w19 ⟨P1Z, rfl, o19, g19⟩
  clear CX19
  have SZ19 : Hid (w18.heap.size ≤ w19.heap.size) := Lib.hid g19.size
  have B_19 := Lib.hid (B_18.out.next g19)
  clear B_18
  have N0_19 := Lib.hid (N0_18.out.next g19)
  clear N0_18
  have N1_19 := Lib.hid (N1_18.out.next g19)
  clear N1_18
  have R0_19 := Lib.hid (R0_18.out.next g19)
  clear R0_18
  have M0_19 := Lib.hid (M0_18.out.next g19)
  clear M0_18
  have Z0_19 := Lib.hid (Z0_18.out.next g19)
  clear Z0_18
  have Z1_19 := Lib.hid (Sp.row o19)
  clear g19 o19
  have CX20 := Lib.hid (CI.out w19 _ n0 _ n1 (B_19.out.here) (Nat.le_refl _) (Nat.le_refl _) hb0 HLS0.out (own_pl2 (Z0_19.out.here) HE0Z.out) (own_num (Z1_19.out.here)))
  go_wp2_with fail
  refine CX20.out.mono ?_
  rintro e w20 ⟨A0E, m0E, d0E, rfl, o20E0, g20⟩
  clear CX20
  obtain rfl : N0r = m0E := by rw [HN0.out]; have h1 := o20E0.1; rw [strV_len] at h1; omega
  clear Z0_19
  clear Z1_19
  have SZ20 : Hid (w19.heap.size ≤ w20.heap.size) := Lib.hid g20.size
  have B_20 := Lib.hid (B_19.out.next g20)
  clear B_19
  have N0_20 := Lib.hid (N0_19.out.next g20)
  clear N0_19
  have N1_20 := Lib.hid (N1_19.out.next g20)
  clear N1_19
  have R0_20 := Lib.hid (R0_19.out.next g20)
  clear R0_19
  have M0_20 := Lib.hid (M0_19.out.next g20)
  clear M0_19
  have E0_20 := Lib.hid (Sp.row o20E0)
  clear g20 o20E0
  have CX21 := Lib.hid (uEqS A0E A0R d0E d0R N0r _ _ v0 w20 HL0.out (E0_20.out.here) (R0_20.out.here))
  go_wp2_with fail
  refine CX21.out.mono ?_
  rintro e w21 ⟨rfl, g21⟩
  clear CX21
  have SZ21 : Hid (w20.heap.size ≤ w21.heap.size) := Lib.hid g21.size
  have B_21 := Lib.hid (B_20.out.next g21)
  clear B_20
  have N0_21 := Lib.hid (N0_20.out.next g21)
  clear N0_20
  have N1_21 := Lib.hid (N1_20.out.next g21)
  clear N1_20
  have R0_21 := Lib.hid (R0_20.out.next g21)
  clear R0_20
  have M0_21 := Lib.hid (M0_20.out.next g21)
  clear M0_20
  have E0_21 := Lib.hid (E0_20.out.next g21)
  clear E0_20
  clear g21
  have CX22 := Lib.hid (show Calls Tryz.prog 46 #[.slice A0G N0r d0G, .int .i64 1] _ _ from uHeldS2 _ A0G N0r d0G (1) w21 (by omega) (by omega) HL0.out (M0_21.out.here))
  go_wp2_with fail
  refine CX22.out.mono ?_
  rintro e w22 ⟨rfl, g22⟩
  clear CX22
  have SZ22 : Hid (w21.heap.size ≤ w22.heap.size) := Lib.hid g22.size
  have B_22 := Lib.hid (B_21.out.next g22)
  clear B_21
  have N0_22 := Lib.hid (N0_21.out.next g22)
  clear N0_21
  have N1_22 := Lib.hid (N1_21.out.next g22)
  clear N1_21
  have R0_22 := Lib.hid (R0_21.out.next g22)
  clear R0_21
  have M0_22 := Lib.hid (M0_21.out.next g22)
  clear M0_21
  have E0_22 := Lib.hid (E0_21.out.next g22)
  clear E0_21
  clear g22
  have hq22 : ¬ ((1 + N0r : Nat) : Int) < 0 := by omega
  have hqm22 : (((1 + N0r : Nat) : Int) != ((1 + N0r : Nat) : Int)) = false := by simp
  go_wp2_with fail
  go_ret
  exact ⟨rfl, B_22.out.here⟩
end Go.Proofs.YtglmibmjbignbaaGreatDoor
