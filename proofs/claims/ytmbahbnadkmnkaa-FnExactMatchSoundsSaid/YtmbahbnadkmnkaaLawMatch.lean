/-
  The law of MatchSounds: its call answers true.
-/
import Derived.Test.YtmbahbnadkmnkaaSpI
import Derived.Test.YtmbahbnadkmnkaaSpS
import Derived.Test.YtmbahbnadkmnkaaMatchS
namespace Go.Proofs.Ytmbahbnadkmnkaa
set_option linter.unusedVariables false
open Go.RowKit

set_option maxHeartbeats 4000000 in
set_option maxRecDepth 100000 in
theorem wMatchSounds (a0 : Option Addr) (n0 c0 : Nat) (z0 : List Int) (a1 : Option Addr) (n1 c1 : Nat) (z1 : List ByteArray) (s2 : ByteArray) (h2 : s2.size ≤ maxLen) (w : World) (h0 : IsInts .i64 w a0 n0 c0 z0) (h1 : IsStrs w a1 n1 c1 z1) :
    Calls Try.prog 7 #[.slice a0 n0 c0, .slice a1 n1 c1, .string s2] w fun e w' => e = .returned (.bool true) ∧ Below w.heap.size w w' := by
  obtain ⟨hm0, hn0⟩ := numAt_arg h0
  clear h0
  obtain ⟨xs0, hxs0⟩ : ∃ xs, xs = z0.take n0 := ⟨_, rfl⟩
  rw [← hxs0] at hn0
  clear hxs0
  have N0_0 := Lib.hid (Sp.num hn0)
  clear hn0
  obtain ⟨hm1, hS1, hn1⟩ := textAt_arg h1
  clear h1
  obtain ⟨xs1, hxs1⟩ : ∃ xs, xs = z1.take n1 := ⟨_, rfl⟩
  rw [← hxs1] at hn1 hS1
  clear hxs1
  have S1 : Hid (∀ r : Int, 0 ≤ r → r ≤ 1048576 → Calls Try.prog 28 #[.slice a1 n1 c1, .int .i64 r] w (SomeR (SmallS n1 xs1) w)) := Lib.hid (fun r h0 h1 => tSz2 a1 n1 c1 _ xs1 r h0 h1 w hm1 hS1 hn1)
  clear hS1
  have N1_0 := Lib.hid (Sp.text hn1)
  clear hn1
  have B_0 := Lib.hid (Sp.from_ w)
  unfold maxLen at hm0
  unfold maxLen at hm1
  unfold maxLen at h2
  by_cases hbig0 : 1048576 < n0
  · go_enter Try.func7, Try.ntmps7
    go_wp2_with fail
    go_ret
    exact ⟨rfl, Below.refl _ _⟩
  have hb0 : n0 ≤ 1048576 := by omega
  by_cases hbig2 : 1048576 < s2.size
  · go_enter Try.func7, Try.ntmps7
    go_wp2_with fail
    go_ret
    exact ⟨rfl, Below.refl _ _⟩
  have hs2 : s2.size ≤ 1048576 := by omega
  obtain ⟨N0r, hN0r⟩ : ∃ N, N = (matZ xs0 xs1 s2).length := ⟨_, rfl⟩
  have HL0 : Hid (N0r ≤ 1048576) := Lib.hid (by rw [hN0r]; exact (Nat.le_trans (matZ_len _ _ _) (by omega)))
  have CS : Hid (∀ (W : World) (A0 : Option Addr) (c0 : Nat) (A1 : Option Addr) (c1 : Nat), n1 ≤ 1048576 → (∀ x ∈ xs1, x.size ≤ 1048576) → NumAt W W.heap.size A0 n0 xs0 → TextAt W W.heap.size A1 n1 xs1 → Calls Try.prog 29 #[.slice A0 n0 c0, .slice A1 n1 c1, .string s2] W (OutI (matZ xs0 xs1 s2) (code7 xs0 xs1 [s2]) W)) := Lib.hid (fun W A0 c0 A1 c1 hb1 hl1 N0 N1 => cMatch_spec A0 A1 n0 c0 n1 c1 xs0 xs1 s2 W (by unfold maxLen; omega) N0 (by unfold maxLen; omega) (fun x hx => by have := hl1 x hx; unfold maxLen; omega) N1 (by unfold maxLen; omega))
  have CI : Hid (∀ (W : World) (A0 : Option Addr) (c0 : Nat) (A1 : Option Addr) (c1 : Nat), n1 ≤ 1048576 → (∀ x ∈ xs1, x.size ≤ 1048576) → NumAt W W.heap.size A0 n0 xs0 → TextAt W W.heap.size A1 n1 xs1 → Calls Try.prog 31 #[.slice A0 n0 c0, .slice A1 n1 c1, .string s2] W (OutI (matZ xs0 xs1 s2) (code7 xs0 xs1 [s2]) W)) := Lib.hid (fun W A0 c0 A1 c1 hb1 hl1 N0 N1 => cMatch_impl A0 A1 n0 c0 n1 c1 xs0 xs1 s2 W (by unfold maxLen; omega) N0 (by unfold maxLen; omega) (fun x hx => by have := hl1 x hx; unfold maxLen; omega) N1 (by unfold maxLen; omega))
  obtain ⟨v0, hv0⟩ : ∃ v, v = matZ xs0 xs1 s2 := ⟨_, rfl⟩
  rw [← hv0] at CS CI hN0r
  have HN0 := Lib.hid hN0r
  clear hN0r
  clear hv0
  obtain ⟨v1, hv1⟩ : ∃ v, v = code7 xs0 xs1 [s2] := ⟨_, rfl⟩
  rw [← hv1] at CS CI
  clear hv1
  have hd1 : (v1 != v1) = false := by simp
  go_enter Try.func7, Try.ntmps7
  go_wp2_with fail
  refine (S1.out 1048576 (by omega) (by omega)).mono ?_
  rintro e w' ⟨r1, hr1, rfl, rfl⟩
  by_cases hrn1 : r1 < 0
  · have hr1 := hr1.1
    clear hr1
    go_wp2_with fail
    go_ret
    exact ⟨rfl, Below.refl _ _⟩
  obtain ⟨hb1, hl1⟩ : n1 ≤ 1048576 ∧ ∀ x ∈ xs1, x.size ≤ 1048576 := by rcases hr1.2 with h | h; omega; exact h
  have hrs1 := hr1.1
  have hrz1 : 0 ≤ r1 := by omega
  have HLS1 := Lib.hid hl1
  clear hr1 hl1
  have CX1 := Lib.hid (uToI a0 n0 c0 xs0 w hb0 N0_0.out.here)
  go_wp2_with fail
  refine CX1.out.mono ?_
  rintro e w1 ⟨P0K, rfl, o1, g1⟩
  clear CX1
  have SZ1 : Hid (w.heap.size ≤ w1.heap.size) := Lib.hid g1.size
  have B_1 := Lib.hid (B_0.out.next g1)
  clear B_0
  have N0_1 := Lib.hid (N0_0.out.next g1)
  clear N0_0
  have N1_1 := Lib.hid (N1_0.out.next g1)
  clear N1_0
  have K0_1 := Lib.hid (Sp.row o1)
  clear g1 o1
  have CX2 := Lib.hid (uToS a1 n1 c1 xs1 w1 hb1 N1_1.out.here)
  go_wp2_with fail
  refine CX2.out.mono ?_
  rintro e w2 ⟨P1K, rfl, o2, g2⟩
  clear CX2
  have SZ2 : Hid (w1.heap.size ≤ w2.heap.size) := Lib.hid g2.size
  have B_2 := Lib.hid (B_1.out.next g2)
  clear B_1
  have N0_2 := Lib.hid (N0_1.out.next g2)
  clear N0_1
  have N1_2 := Lib.hid (N1_1.out.next g2)
  clear N1_1
  have K0_2 := Lib.hid (K0_1.out.next g2)
  clear K0_1
  have K1_2 := Lib.hid (Sp.row o2)
  clear g2 o2
  have CX3 := Lib.hid (CS.out w2 _ n0 _ n1 hb1 HLS1.out (own_num (K0_2.out.here)) (own_text (K1_2.out.here)))
  go_wp2_with fail
  refine CX3.out.mono ?_
  rintro e w3 ⟨A0R, m0R, d0R, rfl, o3R0, g3⟩
  clear CX3
  obtain rfl : N0r = m0R := by rw [HN0.out]; have h1 := o3R0.1; rw [intV_len] at h1; omega
  clear K0_2
  clear K1_2
  have SZ3 : Hid (w2.heap.size ≤ w3.heap.size) := Lib.hid g3.size
  have B_3 := Lib.hid (B_2.out.next g3)
  clear B_2
  have N0_3 := Lib.hid (N0_2.out.next g3)
  clear N0_2
  have N1_3 := Lib.hid (N1_2.out.next g3)
  clear N1_2
  have R0_3 := Lib.hid (Sp.row o3R0)
  clear g3 o3R0
  have CX4 := Lib.hid (uToI a0 n0 c0 xs0 w3 hb0 N0_3.out.here)
  go_wp2_with fail
  refine CX4.out.mono ?_
  rintro e w4 ⟨P0X, rfl, o4, g4⟩
  clear CX4
  have SZ4 : Hid (w3.heap.size ≤ w4.heap.size) := Lib.hid g4.size
  have B_4 := Lib.hid (B_3.out.next g4)
  clear B_3
  have N0_4 := Lib.hid (N0_3.out.next g4)
  clear N0_3
  have N1_4 := Lib.hid (N1_3.out.next g4)
  clear N1_3
  have R0_4 := Lib.hid (R0_3.out.next g4)
  clear R0_3
  have X0_4 := Lib.hid (Sp.row o4)
  clear g4 o4
  have LTX0 : Hid (∀ k, (Value.slice P0X n0 n0).ownBlock = some k → w3.heap.size ≤ k ∧ k < w4.heap.size) := Lib.hid (own_range (X0_4.out.here))
  have CX5 := Lib.hid (uToS a1 n1 c1 xs1 w4 hb1 N1_4.out.here)
  go_wp2_with fail
  refine CX5.out.mono ?_
  rintro e w5 ⟨P1X, rfl, o5, g5⟩
  clear CX5
  have SZ5 : Hid (w4.heap.size ≤ w5.heap.size) := Lib.hid g5.size
  have B_5 := Lib.hid (B_4.out.next g5)
  clear B_4
  have N0_5 := Lib.hid (N0_4.out.next g5)
  clear N0_4
  have N1_5 := Lib.hid (N1_4.out.next g5)
  clear N1_4
  have R0_5 := Lib.hid (R0_4.out.next g5)
  clear R0_4
  have X0_5 := Lib.hid (X0_4.out.next g5)
  clear X0_4
  have X1_5 := Lib.hid (Sp.row o5)
  clear g5 o5
  have LTX1 : Hid (∀ k, (Value.slice P1X n1 n1).ownBlock = some k → w4.heap.size ≤ k ∧ k < w5.heap.size) := Lib.hid (own_range (X1_5.out.here))
  have CX6 := Lib.hid (CI.out w5 _ n0 _ n1 hb1 HLS1.out (own_num (X0_5.out.here)) (own_text (X1_5.out.here)))
  go_wp2_with fail
  refine CX6.out.mono ?_
  rintro e w6 ⟨A0G, m0G, d0G, rfl, o6G0, g6⟩
  clear CX6
  obtain rfl : N0r = m0G := by rw [HN0.out]; have h1 := o6G0.1; rw [intV_len] at h1; omega
  have SZ6 : Hid (w5.heap.size ≤ w6.heap.size) := Lib.hid g6.size
  have B_6 := Lib.hid (B_5.out.next g6)
  clear B_5
  have N0_6 := Lib.hid (N0_5.out.next g6)
  clear N0_5
  have N1_6 := Lib.hid (N1_5.out.next g6)
  clear N1_5
  have R0_6 := Lib.hid (R0_5.out.next g6)
  clear R0_5
  have X0_6 := Lib.hid (X0_5.out.next g6)
  clear X0_5
  have X1_6 := Lib.hid (X1_5.out.next g6)
  clear X1_5
  have G0_6 := Lib.hid (Sp.row o6G0)
  clear g6 o6G0
  have LTG0 : Hid (∀ k, (Value.slice A0G N0r d0G).ownBlock = some k → w5.heap.size ≤ k ∧ k < w6.heap.size) := Lib.hid (own_range (G0_6.out.here))
  have CX7 := Lib.hid (uEqI A0G A0R d0G d0R N0r v0 w6 HL0.out (own_num (G0_6.out.here)) (own_num (R0_6.out.here)))
  go_wp2_with fail
  refine CX7.out.mono ?_
  rintro e w7 ⟨rfl, g7⟩
  clear CX7
  have SZ7 : Hid (w6.heap.size ≤ w7.heap.size) := Lib.hid g7.size
  have B_7 := Lib.hid (B_6.out.next g7)
  clear B_6
  have N0_7 := Lib.hid (N0_6.out.next g7)
  clear N0_6
  have N1_7 := Lib.hid (N1_6.out.next g7)
  clear N1_6
  have R0_7 := Lib.hid (R0_6.out.next g7)
  clear R0_6
  have X0_7 := Lib.hid (X0_6.out.next g7)
  clear X0_6
  have X1_7 := Lib.hid (X1_6.out.next g7)
  clear X1_6
  have G0_7 := Lib.hid (G0_6.out.next g7)
  clear G0_6
  clear g7
  have CX8 := Lib.hid (uToI a0 n0 c0 xs0 w7 hb0 N0_7.out.here)
  go_wp2_with fail
  refine CX8.out.mono ?_
  rintro e w8 ⟨P0Y, rfl, o8, g8⟩
  clear CX8
  have SZ8 : Hid (w7.heap.size ≤ w8.heap.size) := Lib.hid g8.size
  have B_8 := Lib.hid (B_7.out.next g8)
  clear B_7
  have N0_8 := Lib.hid (N0_7.out.next g8)
  clear N0_7
  have N1_8 := Lib.hid (N1_7.out.next g8)
  clear N1_7
  have R0_8 := Lib.hid (R0_7.out.next g8)
  clear R0_7
  have X0_8 := Lib.hid (X0_7.out.next g8)
  clear X0_7
  have X1_8 := Lib.hid (X1_7.out.next g8)
  clear X1_7
  have G0_8 := Lib.hid (G0_7.out.next g8)
  clear G0_7
  have Y0_8 := Lib.hid (Sp.row o8)
  clear g8 o8
  have CX9 := Lib.hid (uEqI P0X P0Y n0 n0 n0 xs0 w8 hb0 (own_num (X0_8.out.here)) (own_num (Y0_8.out.here)))
  go_wp2_with fail
  refine CX9.out.mono ?_
  rintro e w9 ⟨rfl, g9⟩
  clear CX9
  clear Y0_8
  have SZ9 : Hid (w8.heap.size ≤ w9.heap.size) := Lib.hid g9.size
  have B_9 := Lib.hid (B_8.out.next g9)
  clear B_8
  have N0_9 := Lib.hid (N0_8.out.next g9)
  clear N0_8
  have N1_9 := Lib.hid (N1_8.out.next g9)
  clear N1_8
  have R0_9 := Lib.hid (R0_8.out.next g9)
  clear R0_8
  have X0_9 := Lib.hid (X0_8.out.next g9)
  clear X0_8
  have X1_9 := Lib.hid (X1_8.out.next g9)
  clear X1_8
  have G0_9 := Lib.hid (G0_8.out.next g9)
  clear G0_8
  clear g9
  have CX10 := Lib.hid (uToS a1 n1 c1 xs1 w9 hb1 N1_9.out.here)
  go_wp2_with fail
  refine CX10.out.mono ?_
  rintro e w10 ⟨P1Y, rfl, o10, g10⟩
  clear CX10
  have SZ10 : Hid (w9.heap.size ≤ w10.heap.size) := Lib.hid g10.size
  have B_10 := Lib.hid (B_9.out.next g10)
  clear B_9
  have N0_10 := Lib.hid (N0_9.out.next g10)
  clear N0_9
  have N1_10 := Lib.hid (N1_9.out.next g10)
  clear N1_9
  have R0_10 := Lib.hid (R0_9.out.next g10)
  clear R0_9
  have X0_10 := Lib.hid (X0_9.out.next g10)
  clear X0_9
  have X1_10 := Lib.hid (X1_9.out.next g10)
  clear X1_9
  have G0_10 := Lib.hid (G0_9.out.next g10)
  clear G0_9
  have Y1_10 := Lib.hid (Sp.row o10)
  clear g10 o10
  have CX11 := Lib.hid (uEqS P1X P1Y n1 n1 n1 _ _ xs1 w10 hb1 (X1_10.out.here) (Y1_10.out.here))
  go_wp2_with fail
  refine CX11.out.mono ?_
  rintro e w11 ⟨rfl, g11⟩
  clear CX11
  clear Y1_10
  have SZ11 : Hid (w10.heap.size ≤ w11.heap.size) := Lib.hid g11.size
  have B_11 := Lib.hid (B_10.out.next g11)
  clear B_10
  have N0_11 := Lib.hid (N0_10.out.next g11)
  clear N0_10
  have N1_11 := Lib.hid (N1_10.out.next g11)
  clear N1_10
  have R0_11 := Lib.hid (R0_10.out.next g11)
  clear R0_10
  have X0_11 := Lib.hid (X0_10.out.next g11)
  clear X0_10
  have X1_11 := Lib.hid (X1_10.out.next g11)
  clear X1_10
  have G0_11 := Lib.hid (G0_10.out.next g11)
  clear G0_10
  clear g11
  have CX12 := Lib.hid (show Calls Try.prog 33 #[.slice P0X n0 n0, .int .i64 1] _ _ from uMarkI _ P0X n0 n0 (1) xs0 w11 (by omega) hb0 (X0_11.out.here))
  go_wp2_with fail
  refine CX12.out.mono ?_
  rintro e w12 ⟨rfl, o12m, g12⟩
  clear CX12
  clear X0_11
  have SZ12 : Hid (w11.heap.size ≤ w12.heap.size) := Lib.hid g12.size
  have B_12 := Lib.hid (B_11.out.mark g12 (fun k hk => by have h1 := LTX0.out k hk; have s0 := SZ1.out; have s1 := SZ2.out; have s2 := SZ3.out; have s3 := SZ4.out; have s4 := SZ5.out; have s5 := SZ6.out; have s6 := SZ7.out; have s7 := SZ8.out; have s8 := SZ9.out; have s9 := SZ10.out; have s10 := SZ11.out; have s11 := SZ12.out; omega))
  clear B_11
  have N0_12 := Lib.hid (N0_11.out.mark g12 (fun k hk => by have h1 := LTX0.out k hk; have s0 := SZ1.out; have s1 := SZ2.out; have s2 := SZ3.out; have s3 := SZ4.out; have s4 := SZ5.out; have s5 := SZ6.out; have s6 := SZ7.out; have s7 := SZ8.out; have s8 := SZ9.out; have s9 := SZ10.out; have s10 := SZ11.out; have s11 := SZ12.out; omega))
  clear N0_11
  have N1_12 := Lib.hid (N1_11.out.mark g12 (fun k hk => by have h1 := LTX0.out k hk; have s0 := SZ1.out; have s1 := SZ2.out; have s2 := SZ3.out; have s3 := SZ4.out; have s4 := SZ5.out; have s5 := SZ6.out; have s6 := SZ7.out; have s7 := SZ8.out; have s8 := SZ9.out; have s9 := SZ10.out; have s10 := SZ11.out; have s11 := SZ12.out; omega))
  clear N1_11
  have R0_12 := Lib.hid (R0_11.out.mark g12 (fun k hk => by have h1 := LTX0.out k hk; have s0 := SZ1.out; have s1 := SZ2.out; have s2 := SZ3.out; have s3 := SZ4.out; have s4 := SZ5.out; have s5 := SZ6.out; have s6 := SZ7.out; have s7 := SZ8.out; have s8 := SZ9.out; have s9 := SZ10.out; have s10 := SZ11.out; have s11 := SZ12.out; omega))
  clear R0_11
  have X1_12 := Lib.hid (X1_11.out.mark g12 (fun k hk => by have h1 := LTX0.out k hk; have s0 := SZ1.out; have s1 := SZ2.out; have s2 := SZ3.out; have s3 := SZ4.out; have s4 := SZ5.out; have s5 := SZ6.out; have s6 := SZ7.out; have s7 := SZ8.out; have s8 := SZ9.out; have s9 := SZ10.out; have s10 := SZ11.out; have s11 := SZ12.out; omega))
  clear X1_11
  have G0_12 := Lib.hid (G0_11.out.mark g12 (fun k hk => by have h1 := LTX0.out k hk; have s0 := SZ1.out; have s1 := SZ2.out; have s2 := SZ3.out; have s3 := SZ4.out; have s4 := SZ5.out; have s5 := SZ6.out; have s6 := SZ7.out; have s7 := SZ8.out; have s8 := SZ9.out; have s9 := SZ10.out; have s10 := SZ11.out; have s11 := SZ12.out; omega))
  clear G0_11
  clear g12 o12m
  have CX13 := Lib.hid (show Calls Try.prog 34 #[.slice P1X n1 n1, .int .i64 ((1 + n0 : Nat) : Int)] _ _ from uMarkS _ P1X n1 n1 (1 + n0) xs1 w12 (by omega) (by omega) hb1 (X1_12.out.here))
  go_wp2_with fail
  refine CX13.out.mono ?_
  rintro e w13 ⟨rfl, g13⟩
  clear CX13
  clear X1_12
  have SZ13 : Hid (w12.heap.size ≤ w13.heap.size) := Lib.hid g13.size
  have B_13 := Lib.hid (B_12.out.mark g13 (fun k hk => by have h1 := LTX1.out k hk; have s0 := SZ1.out; have s1 := SZ2.out; have s2 := SZ3.out; have s3 := SZ4.out; have s4 := SZ5.out; have s5 := SZ6.out; have s6 := SZ7.out; have s7 := SZ8.out; have s8 := SZ9.out; have s9 := SZ10.out; have s10 := SZ11.out; have s11 := SZ12.out; have s12 := SZ13.out; omega))
  clear B_12
  have N0_13 := Lib.hid (N0_12.out.mark g13 (fun k hk => by have h1 := LTX1.out k hk; have s0 := SZ1.out; have s1 := SZ2.out; have s2 := SZ3.out; have s3 := SZ4.out; have s4 := SZ5.out; have s5 := SZ6.out; have s6 := SZ7.out; have s7 := SZ8.out; have s8 := SZ9.out; have s9 := SZ10.out; have s10 := SZ11.out; have s11 := SZ12.out; have s12 := SZ13.out; omega))
  clear N0_12
  have N1_13 := Lib.hid (N1_12.out.mark g13 (fun k hk => by have h1 := LTX1.out k hk; have s0 := SZ1.out; have s1 := SZ2.out; have s2 := SZ3.out; have s3 := SZ4.out; have s4 := SZ5.out; have s5 := SZ6.out; have s6 := SZ7.out; have s7 := SZ8.out; have s8 := SZ9.out; have s9 := SZ10.out; have s10 := SZ11.out; have s11 := SZ12.out; have s12 := SZ13.out; omega))
  clear N1_12
  have R0_13 := Lib.hid (R0_12.out.mark g13 (fun k hk => by have h1 := LTX1.out k hk; have s0 := SZ1.out; have s1 := SZ2.out; have s2 := SZ3.out; have s3 := SZ4.out; have s4 := SZ5.out; have s5 := SZ6.out; have s6 := SZ7.out; have s7 := SZ8.out; have s8 := SZ9.out; have s9 := SZ10.out; have s10 := SZ11.out; have s11 := SZ12.out; have s12 := SZ13.out; omega))
  clear R0_12
  have G0_13 := Lib.hid (G0_12.out.mark g13 (fun k hk => by have h1 := LTX1.out k hk; have s0 := SZ1.out; have s1 := SZ2.out; have s2 := SZ3.out; have s3 := SZ4.out; have s4 := SZ5.out; have s5 := SZ6.out; have s6 := SZ7.out; have s7 := SZ8.out; have s8 := SZ9.out; have s9 := SZ10.out; have s10 := SZ11.out; have s11 := SZ12.out; have s12 := SZ13.out; omega))
  clear G0_12
  clear g13
  have hkk : ¬ ((1 + n0 + n1 : Nat) : Int) < 0 := by omega
  have CX14 := Lib.hid (uEqI A0G A0R d0G d0R N0r v0 w13 HL0.out (own_num (G0_13.out.here)) (own_num (R0_13.out.here)))
  go_wp2_with fail
  refine CX14.out.mono ?_
  rintro e w14 ⟨rfl, g14⟩
  clear CX14
  have SZ14 : Hid (w13.heap.size ≤ w14.heap.size) := Lib.hid g14.size
  have B_14 := Lib.hid (B_13.out.next g14)
  clear B_13
  have N0_14 := Lib.hid (N0_13.out.next g14)
  clear N0_13
  have N1_14 := Lib.hid (N1_13.out.next g14)
  clear N1_13
  have R0_14 := Lib.hid (R0_13.out.next g14)
  clear R0_13
  have G0_14 := Lib.hid (G0_13.out.next g14)
  clear G0_13
  clear g14
  clear hkk
  have CX15 := Lib.hid (show Calls Try.prog 33 #[.slice A0G N0r d0G, .int .i64 1] _ _ from uMarkI _ A0G N0r d0G (1) v0 w14 (by omega) HL0.out (G0_14.out.here))
  go_wp2_with fail
  refine CX15.out.mono ?_
  rintro e w15 ⟨rfl, o15m, g15⟩
  clear CX15
  clear G0_14
  have SZ15 : Hid (w14.heap.size ≤ w15.heap.size) := Lib.hid g15.size
  have B_15 := Lib.hid (B_14.out.mark g15 (fun k hk => by have h1 := LTG0.out k hk; have s0 := SZ1.out; have s1 := SZ2.out; have s2 := SZ3.out; have s3 := SZ4.out; have s4 := SZ5.out; have s5 := SZ6.out; have s6 := SZ7.out; have s7 := SZ8.out; have s8 := SZ9.out; have s9 := SZ10.out; have s10 := SZ11.out; have s11 := SZ12.out; have s12 := SZ13.out; have s13 := SZ14.out; have s14 := SZ15.out; omega))
  clear B_14
  have N0_15 := Lib.hid (N0_14.out.mark g15 (fun k hk => by have h1 := LTG0.out k hk; have s0 := SZ1.out; have s1 := SZ2.out; have s2 := SZ3.out; have s3 := SZ4.out; have s4 := SZ5.out; have s5 := SZ6.out; have s6 := SZ7.out; have s7 := SZ8.out; have s8 := SZ9.out; have s9 := SZ10.out; have s10 := SZ11.out; have s11 := SZ12.out; have s12 := SZ13.out; have s13 := SZ14.out; have s14 := SZ15.out; omega))
  clear N0_14
  have N1_15 := Lib.hid (N1_14.out.mark g15 (fun k hk => by have h1 := LTG0.out k hk; have s0 := SZ1.out; have s1 := SZ2.out; have s2 := SZ3.out; have s3 := SZ4.out; have s4 := SZ5.out; have s5 := SZ6.out; have s6 := SZ7.out; have s7 := SZ8.out; have s8 := SZ9.out; have s9 := SZ10.out; have s10 := SZ11.out; have s11 := SZ12.out; have s12 := SZ13.out; have s13 := SZ14.out; have s14 := SZ15.out; omega))
  clear N1_14
  have R0_15 := Lib.hid (R0_14.out.mark g15 (fun k hk => by have h1 := LTG0.out k hk; have s0 := SZ1.out; have s1 := SZ2.out; have s2 := SZ3.out; have s3 := SZ4.out; have s4 := SZ5.out; have s5 := SZ6.out; have s6 := SZ7.out; have s7 := SZ8.out; have s8 := SZ9.out; have s9 := SZ10.out; have s10 := SZ11.out; have s11 := SZ12.out; have s12 := SZ13.out; have s13 := SZ14.out; have s14 := SZ15.out; omega))
  clear R0_14
  have M0_15 := Lib.hid (Sp.again (hi := w6.heap.size) o15m (fun k hk => (LTG0.out k hk).2) (by have s0 := SZ1.out; have s1 := SZ2.out; have s2 := SZ3.out; have s3 := SZ4.out; have s4 := SZ5.out; have s5 := SZ6.out; have s6 := SZ7.out; have s7 := SZ8.out; have s8 := SZ9.out; have s9 := SZ10.out; have s10 := SZ11.out; have s11 := SZ12.out; have s12 := SZ13.out; have s13 := SZ14.out; have s0 := SZ15.out; omega))
  clear g15 o15m
  have CX16 := Lib.hid (show Calls Try.prog 35 #[.slice A0G N0r d0G, .int .i64 1] _ _ from uHeldI _ A0G N0r d0G (1) w15 (by omega) HL0.out (M0_15.out.here))
  go_wp2_with fail
  refine CX16.out.mono ?_
  rintro e w' ⟨rfl, rfl⟩
  clear CX16
  have hq16 : ¬ ((1 + N0r : Nat) : Int) < 0 := by omega
  have hqm16 : (((1 + N0r : Nat) : Int) != ((1 + N0r : Nat) : Int)) = false := by simp
  have CX17 := Lib.hid (uToI a0 n0 c0 xs0 w15 hb0 N0_15.out.here)
  go_wp2_with fail
  refine CX17.out.mono ?_
  rintro e w17 ⟨P0Z, rfl, o17, g17⟩
  clear CX17
  have SZ17 : Hid (w15.heap.size ≤ w17.heap.size) := Lib.hid g17.size
  have B_17 := Lib.hid (B_15.out.next g17)
  clear B_15
  have N0_17 := Lib.hid (N0_15.out.next g17)
  clear N0_15
  have N1_17 := Lib.hid (N1_15.out.next g17)
  clear N1_15
  have R0_17 := Lib.hid (R0_15.out.next g17)
  clear R0_15
  have M0_17 := Lib.hid (M0_15.out.next g17)
  clear M0_15
  have Z0_17 := Lib.hid (Sp.row o17)
  clear g17 o17
  have CX18 := Lib.hid (uToS a1 n1 c1 xs1 w17 hb1 N1_17.out.here)
  go_wp2_with fail
  refine CX18.out.mono ?_
  rintro e w18 ⟨P1Z, rfl, o18, g18⟩
  clear CX18
  have SZ18 : Hid (w17.heap.size ≤ w18.heap.size) := Lib.hid g18.size
  have B_18 := Lib.hid (B_17.out.next g18)
  clear B_17
  have N0_18 := Lib.hid (N0_17.out.next g18)
  clear N0_17
  have N1_18 := Lib.hid (N1_17.out.next g18)
  clear N1_17
  have R0_18 := Lib.hid (R0_17.out.next g18)
  clear R0_17
  have M0_18 := Lib.hid (M0_17.out.next g18)
  clear M0_17
  have Z0_18 := Lib.hid (Z0_17.out.next g18)
  clear Z0_17
  have Z1_18 := Lib.hid (Sp.row o18)
  clear g18 o18
  have CX19 := Lib.hid (CI.out w18 _ n0 _ n1 hb1 HLS1.out (own_num (Z0_18.out.here)) (own_text (Z1_18.out.here)))
  go_wp2_with fail
  refine CX19.out.mono ?_
  rintro e w19 ⟨A0E, m0E, d0E, rfl, o19E0, g19⟩
  clear CX19
  obtain rfl : N0r = m0E := by rw [HN0.out]; have h1 := o19E0.1; rw [intV_len] at h1; omega
  clear Z0_18
  clear Z1_18
  have SZ19 : Hid (w18.heap.size ≤ w19.heap.size) := Lib.hid g19.size
  have B_19 := Lib.hid (B_18.out.next g19)
  clear B_18
  have N0_19 := Lib.hid (N0_18.out.next g19)
  clear N0_18
  have N1_19 := Lib.hid (N1_18.out.next g19)
  clear N1_18
  have R0_19 := Lib.hid (R0_18.out.next g19)
  clear R0_18
  have M0_19 := Lib.hid (M0_18.out.next g19)
  clear M0_18
  have E0_19 := Lib.hid (Sp.row o19E0)
  clear g19 o19E0
  have CX20 := Lib.hid (uEqI A0E A0R d0E d0R N0r v0 w19 HL0.out (own_num (E0_19.out.here)) (own_num (R0_19.out.here)))
  go_wp2_with fail
  refine CX20.out.mono ?_
  rintro e w20 ⟨rfl, g20⟩
  clear CX20
  have SZ20 : Hid (w19.heap.size ≤ w20.heap.size) := Lib.hid g20.size
  have B_20 := Lib.hid (B_19.out.next g20)
  clear B_19
  have N0_20 := Lib.hid (N0_19.out.next g20)
  clear N0_19
  have N1_20 := Lib.hid (N1_19.out.next g20)
  clear N1_19
  have R0_20 := Lib.hid (R0_19.out.next g20)
  clear R0_19
  have M0_20 := Lib.hid (M0_19.out.next g20)
  clear M0_19
  have E0_20 := Lib.hid (E0_19.out.next g20)
  clear E0_19
  clear g20
  have CX21 := Lib.hid (show Calls Try.prog 35 #[.slice A0G N0r d0G, .int .i64 1] _ _ from uHeldI _ A0G N0r d0G (1) w20 (by omega) HL0.out (M0_20.out.here))
  go_wp2_with fail
  refine CX21.out.mono ?_
  rintro e w' ⟨rfl, rfl⟩
  clear CX21
  have hq21 : ¬ ((1 + N0r : Nat) : Int) < 0 := by omega
  have hqm21 : (((1 + N0r : Nat) : Int) != ((1 + N0r : Nat) : Int)) = false := by simp
  go_wp2_with fail
  go_ret
  exact ⟨rfl, B_20.out.here⟩
end Go.Proofs.Ytmbahbnadkmnkaa
