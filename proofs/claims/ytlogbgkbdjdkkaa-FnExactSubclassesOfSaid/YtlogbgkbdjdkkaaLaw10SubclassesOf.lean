/-
  The law of SubclassesOf: its call answers true.
-/
import Derived.Test.YtlogbgkbdjdkkaaSpI
import Derived.Test.YtlogbgkbdjdkkaaTr10B
namespace Go.Proofs.Ytlogbgkbdjdkkaa
set_option linter.unusedVariables false
open Go.RowKit

set_option maxHeartbeats 4000000 in
set_option maxRecDepth 100000 in
theorem wSubclassesOf (a0 : Option Addr) (n0 c0 : Nat) (z0 : List Int) (x1 : Int) (w : World) (h0 : IsInts .i64 w a0 n0 c0 z0) :
    Calls Try.prog 8 #[.slice a0 n0 c0, .int .i64 x1] w fun e w' => e = .returned (.bool true) ∧ Below w.heap.size w w' := by
  obtain ⟨hm0, hn0⟩ := numAt_arg h0
  clear h0
  obtain ⟨xs0, hxs0⟩ : ∃ xs, xs = z0.take n0 := ⟨_, rfl⟩
  rw [← hxs0] at hn0
  clear hxs0
  have N0_0 := Lib.hid (Sp.num hn0)
  clear hn0
  have B_0 := Lib.hid (Sp.from_ w)
  unfold maxLen at hm0
  by_cases hbig0 : 1048576 < n0
  · go_enter Try.func8, Try.ntmps8
    go_wp2_with fail
    go_ret
    exact ⟨rfl, Below.refl _ _⟩
  have hb0 : n0 ≤ 1048576 := by omega
  obtain ⟨N0r, hN0r⟩ : ∃ N, N = (sbZ xs0 x1).length := ⟨_, rfl⟩
  have HL0 : Hid (N0r ≤ 1048576) := Lib.hid (by rw [hN0r]; exact (Nat.le_trans (sbZ_len _ _) (by omega)))
  have CS : Hid (∀ (W : World) (A0 : Option Addr) (c0 : Nat), NumAt W W.heap.size A0 n0 xs0 → Calls Try.prog 25 #[.slice A0 n0 c0, .int .i64 x1] W (Out10 (sbZ xs0 x1) (clsC xs0 [x1]) W)) := Lib.hid (fun W A0 c0 N0 => cSubclassesOf_spec A0 n0 c0 xs0 x1 W hb0 N0)
  have CI : Hid (∀ (W : World) (A0 : Option Addr) (c0 : Nat), NumAt W W.heap.size A0 n0 xs0 → Calls Try.prog 24 #[.slice A0 n0 c0, .int .i64 x1] W (Out10 (sbZ xs0 x1) (clsC xs0 [x1]) W)) := Lib.hid (fun W A0 c0 N0 => cSubclassesOf_impl A0 n0 c0 xs0 x1 W hb0 N0)
  obtain ⟨v0, hv0⟩ : ∃ v, v = sbZ xs0 x1 := ⟨_, rfl⟩
  rw [← hv0] at CS CI hN0r
  have HN0 := Lib.hid hN0r
  clear hN0r
  clear hv0
  obtain ⟨v1, hv1⟩ : ∃ v, v = clsC xs0 [x1] := ⟨_, rfl⟩
  rw [← hv1] at CS CI
  clear hv1
  have hd1 : (v1 != v1) = false := by simp
  go_enter Try.func8, Try.ntmps8
  have CX1 := Lib.hid (uToI a0 n0 c0 xs0 w hb0 N0_0.out.here)
  go_wp2_with fail
  refine CX1.out.mono ?_
  rintro e w1 ⟨P0K, rfl, o1, g1⟩
  clear CX1
  have SZ1 : Hid (w.heap.size ≤ w1.heap.size) := Lib.hid g1.size
  have B_1 := Lib.hid (B_0.out.next g1)
  clear B_0
  have N0_1 := Lib.hid (N0_0.out.next g1)
  clear N0_0
  have K0_1 := Lib.hid (Sp.row o1)
  clear g1 o1
  have CX2 := Lib.hid (CS.out w1 _ n0 (own_num (K0_1.out.here)))
  go_wp2_with fail
  refine CX2.out.mono ?_
  rintro e w2 ⟨A0R, m0R, d0R, rfl, o2R0, g2⟩
  clear CX2
  obtain rfl : N0r = m0R := by rw [HN0.out]; have h1 := o2R0.1; rw [intV_len] at h1; omega
  clear K0_1
  have SZ2 : Hid (w1.heap.size ≤ w2.heap.size) := Lib.hid g2.size
  have B_2 := Lib.hid (B_1.out.next g2)
  clear B_1
  have N0_2 := Lib.hid (N0_1.out.next g2)
  clear N0_1
  have R0_2 := Lib.hid (Sp.row o2R0)
  clear g2 o2R0
  have CX3 := Lib.hid (uToI a0 n0 c0 xs0 w2 hb0 N0_2.out.here)
  go_wp2_with fail
  refine CX3.out.mono ?_
  rintro e w3 ⟨P0X, rfl, o3, g3⟩
  clear CX3
  have SZ3 : Hid (w2.heap.size ≤ w3.heap.size) := Lib.hid g3.size
  have B_3 := Lib.hid (B_2.out.next g3)
  clear B_2
  have N0_3 := Lib.hid (N0_2.out.next g3)
  clear N0_2
  have R0_3 := Lib.hid (R0_2.out.next g3)
  clear R0_2
  have X0_3 := Lib.hid (Sp.row o3)
  clear g3 o3
  have LTX0 : Hid (∀ k, (Value.slice P0X n0 n0).ownBlock = some k → w2.heap.size ≤ k ∧ k < w3.heap.size) := Lib.hid (own_range (X0_3.out.here))
  have CX4 := Lib.hid (CI.out w3 _ n0 (own_num (X0_3.out.here)))
  go_wp2_with fail
  refine CX4.out.mono ?_
  rintro e w4 ⟨A0G, m0G, d0G, rfl, o4G0, g4⟩
  clear CX4
  obtain rfl : N0r = m0G := by rw [HN0.out]; have h1 := o4G0.1; rw [intV_len] at h1; omega
  have SZ4 : Hid (w3.heap.size ≤ w4.heap.size) := Lib.hid g4.size
  have B_4 := Lib.hid (B_3.out.next g4)
  clear B_3
  have N0_4 := Lib.hid (N0_3.out.next g4)
  clear N0_3
  have R0_4 := Lib.hid (R0_3.out.next g4)
  clear R0_3
  have X0_4 := Lib.hid (X0_3.out.next g4)
  clear X0_3
  have G0_4 := Lib.hid (Sp.row o4G0)
  clear g4 o4G0
  have LTG0 : Hid (∀ k, (Value.slice A0G N0r d0G).ownBlock = some k → w3.heap.size ≤ k ∧ k < w4.heap.size) := Lib.hid (own_range (G0_4.out.here))
  have CX5 := Lib.hid (uEqI A0G A0R d0G d0R N0r v0 w4 HL0.out (own_num (G0_4.out.here)) (own_num (R0_4.out.here)))
  go_wp2_with fail
  refine CX5.out.mono ?_
  rintro e w5 ⟨rfl, g5⟩
  clear CX5
  have SZ5 : Hid (w4.heap.size ≤ w5.heap.size) := Lib.hid g5.size
  have B_5 := Lib.hid (B_4.out.next g5)
  clear B_4
  have N0_5 := Lib.hid (N0_4.out.next g5)
  clear N0_4
  have R0_5 := Lib.hid (R0_4.out.next g5)
  clear R0_4
  have X0_5 := Lib.hid (X0_4.out.next g5)
  clear X0_4
  have G0_5 := Lib.hid (G0_4.out.next g5)
  clear G0_4
  clear g5
  have CX6 := Lib.hid (uToI a0 n0 c0 xs0 w5 hb0 N0_5.out.here)
  go_wp2_with fail
  refine CX6.out.mono ?_
  rintro e w6 ⟨P0Y, rfl, o6, g6⟩
  clear CX6
  have SZ6 : Hid (w5.heap.size ≤ w6.heap.size) := Lib.hid g6.size
  have B_6 := Lib.hid (B_5.out.next g6)
  clear B_5
  have N0_6 := Lib.hid (N0_5.out.next g6)
  clear N0_5
  have R0_6 := Lib.hid (R0_5.out.next g6)
  clear R0_5
  have X0_6 := Lib.hid (X0_5.out.next g6)
  clear X0_5
  have G0_6 := Lib.hid (G0_5.out.next g6)
  clear G0_5
  have Y0_6 := Lib.hid (Sp.row o6)
  clear g6 o6
  have CX7 := Lib.hid (uEqI P0X P0Y n0 n0 n0 xs0 w6 hb0 (own_num (X0_6.out.here)) (own_num (Y0_6.out.here)))
  go_wp2_with fail
  refine CX7.out.mono ?_
  rintro e w7 ⟨rfl, g7⟩
  clear CX7
  clear Y0_6
  have SZ7 : Hid (w6.heap.size ≤ w7.heap.size) := Lib.hid g7.size
  have B_7 := Lib.hid (B_6.out.next g7)
  clear B_6
  have N0_7 := Lib.hid (N0_6.out.next g7)
  clear N0_6
  have R0_7 := Lib.hid (R0_6.out.next g7)
  clear R0_6
  have X0_7 := Lib.hid (X0_6.out.next g7)
  clear X0_6
  have G0_7 := Lib.hid (G0_6.out.next g7)
  clear G0_6
  clear g7
  have CX8 := Lib.hid (show Calls Try.prog 43 #[.slice P0X n0 n0, .int .i64 1] _ _ from uMarkI _ P0X n0 n0 (1) xs0 w7 (by omega) hb0 (X0_7.out.here))
  go_wp2_with fail
  refine CX8.out.mono ?_
  rintro e w8 ⟨rfl, o8m, g8⟩
  clear CX8
  clear X0_7
  have SZ8 : Hid (w7.heap.size ≤ w8.heap.size) := Lib.hid g8.size
  have B_8 := Lib.hid (B_7.out.mark g8 (fun k hk => by have h1 := LTX0.out k hk; have s0 := SZ1.out; have s1 := SZ2.out; have s2 := SZ3.out; have s3 := SZ4.out; have s4 := SZ5.out; have s5 := SZ6.out; have s6 := SZ7.out; have s7 := SZ8.out; omega))
  clear B_7
  have N0_8 := Lib.hid (N0_7.out.mark g8 (fun k hk => by have h1 := LTX0.out k hk; have s0 := SZ1.out; have s1 := SZ2.out; have s2 := SZ3.out; have s3 := SZ4.out; have s4 := SZ5.out; have s5 := SZ6.out; have s6 := SZ7.out; have s7 := SZ8.out; omega))
  clear N0_7
  have R0_8 := Lib.hid (R0_7.out.mark g8 (fun k hk => by have h1 := LTX0.out k hk; have s0 := SZ1.out; have s1 := SZ2.out; have s2 := SZ3.out; have s3 := SZ4.out; have s4 := SZ5.out; have s5 := SZ6.out; have s6 := SZ7.out; have s7 := SZ8.out; omega))
  clear R0_7
  have G0_8 := Lib.hid (G0_7.out.mark g8 (fun k hk => by have h1 := LTX0.out k hk; have s0 := SZ1.out; have s1 := SZ2.out; have s2 := SZ3.out; have s3 := SZ4.out; have s4 := SZ5.out; have s5 := SZ6.out; have s6 := SZ7.out; have s7 := SZ8.out; omega))
  clear G0_7
  clear g8 o8m
  have hkk : ¬ ((1 + n0 : Nat) : Int) < 0 := by omega
  have CX9 := Lib.hid (uEqI A0G A0R d0G d0R N0r v0 w8 HL0.out (own_num (G0_8.out.here)) (own_num (R0_8.out.here)))
  go_wp2_with fail
  refine CX9.out.mono ?_
  rintro e w9 ⟨rfl, g9⟩
  clear CX9
  have SZ9 : Hid (w8.heap.size ≤ w9.heap.size) := Lib.hid g9.size
  have B_9 := Lib.hid (B_8.out.next g9)
  clear B_8
  have N0_9 := Lib.hid (N0_8.out.next g9)
  clear N0_8
  have R0_9 := Lib.hid (R0_8.out.next g9)
  clear R0_8
  have G0_9 := Lib.hid (G0_8.out.next g9)
  clear G0_8
  clear g9
  clear hkk
  have CX10 := Lib.hid (show Calls Try.prog 43 #[.slice A0G N0r d0G, .int .i64 1] _ _ from uMarkI _ A0G N0r d0G (1) v0 w9 (by omega) HL0.out (G0_9.out.here))
  go_wp2_with fail
  refine CX10.out.mono ?_
  rintro e w10 ⟨rfl, o10m, g10⟩
  clear CX10
  clear G0_9
  have SZ10 : Hid (w9.heap.size ≤ w10.heap.size) := Lib.hid g10.size
  have B_10 := Lib.hid (B_9.out.mark g10 (fun k hk => by have h1 := LTG0.out k hk; have s0 := SZ1.out; have s1 := SZ2.out; have s2 := SZ3.out; have s3 := SZ4.out; have s4 := SZ5.out; have s5 := SZ6.out; have s6 := SZ7.out; have s7 := SZ8.out; have s8 := SZ9.out; have s9 := SZ10.out; omega))
  clear B_9
  have N0_10 := Lib.hid (N0_9.out.mark g10 (fun k hk => by have h1 := LTG0.out k hk; have s0 := SZ1.out; have s1 := SZ2.out; have s2 := SZ3.out; have s3 := SZ4.out; have s4 := SZ5.out; have s5 := SZ6.out; have s6 := SZ7.out; have s7 := SZ8.out; have s8 := SZ9.out; have s9 := SZ10.out; omega))
  clear N0_9
  have R0_10 := Lib.hid (R0_9.out.mark g10 (fun k hk => by have h1 := LTG0.out k hk; have s0 := SZ1.out; have s1 := SZ2.out; have s2 := SZ3.out; have s3 := SZ4.out; have s4 := SZ5.out; have s5 := SZ6.out; have s6 := SZ7.out; have s7 := SZ8.out; have s8 := SZ9.out; have s9 := SZ10.out; omega))
  clear R0_9
  have M0_10 := Lib.hid (Sp.again (hi := w4.heap.size) o10m (fun k hk => (LTG0.out k hk).2) (by have s0 := SZ1.out; have s1 := SZ2.out; have s2 := SZ3.out; have s3 := SZ4.out; have s4 := SZ5.out; have s5 := SZ6.out; have s6 := SZ7.out; have s7 := SZ8.out; have s8 := SZ9.out; have s0 := SZ10.out; omega))
  clear g10 o10m
  have CX11 := Lib.hid (show Calls Try.prog 44 #[.slice A0G N0r d0G, .int .i64 1] _ _ from uHeldI _ A0G N0r d0G (1) w10 (by omega) HL0.out (M0_10.out.here))
  go_wp2_with fail
  refine CX11.out.mono ?_
  rintro e w' ⟨rfl, rfl⟩
  clear CX11
  have hq11 : ¬ ((1 + N0r : Nat) : Int) < 0 := by omega
  have hqm11 : (((1 + N0r : Nat) : Int) != ((1 + N0r : Nat) : Int)) = false := by simp
  have CX12 := Lib.hid (uToI a0 n0 c0 xs0 w10 hb0 N0_10.out.here)
  go_wp2_with fail
  refine CX12.out.mono ?_
  rintro e w12 ⟨P0Z, rfl, o12, g12⟩
  clear CX12
  have SZ12 : Hid (w10.heap.size ≤ w12.heap.size) := Lib.hid g12.size
  have B_12 := Lib.hid (B_10.out.next g12)
  clear B_10
  have N0_12 := Lib.hid (N0_10.out.next g12)
  clear N0_10
  have R0_12 := Lib.hid (R0_10.out.next g12)
  clear R0_10
  have M0_12 := Lib.hid (M0_10.out.next g12)
  clear M0_10
  have Z0_12 := Lib.hid (Sp.row o12)
  clear g12 o12
  have CX13 := Lib.hid (CI.out w12 _ n0 (own_num (Z0_12.out.here)))
  go_wp2_with fail
  refine CX13.out.mono ?_
  rintro e w13 ⟨A0E, m0E, d0E, rfl, o13E0, g13⟩
  clear CX13
  obtain rfl : N0r = m0E := by rw [HN0.out]; have h1 := o13E0.1; rw [intV_len] at h1; omega
  clear Z0_12
  have SZ13 : Hid (w12.heap.size ≤ w13.heap.size) := Lib.hid g13.size
  have B_13 := Lib.hid (B_12.out.next g13)
  clear B_12
  have N0_13 := Lib.hid (N0_12.out.next g13)
  clear N0_12
  have R0_13 := Lib.hid (R0_12.out.next g13)
  clear R0_12
  have M0_13 := Lib.hid (M0_12.out.next g13)
  clear M0_12
  have E0_13 := Lib.hid (Sp.row o13E0)
  clear g13 o13E0
  have CX14 := Lib.hid (uEqI A0E A0R d0E d0R N0r v0 w13 HL0.out (own_num (E0_13.out.here)) (own_num (R0_13.out.here)))
  go_wp2_with fail
  refine CX14.out.mono ?_
  rintro e w14 ⟨rfl, g14⟩
  clear CX14
  have SZ14 : Hid (w13.heap.size ≤ w14.heap.size) := Lib.hid g14.size
  have B_14 := Lib.hid (B_13.out.next g14)
  clear B_13
  have N0_14 := Lib.hid (N0_13.out.next g14)
  clear N0_13
  have R0_14 := Lib.hid (R0_13.out.next g14)
  clear R0_13
  have M0_14 := Lib.hid (M0_13.out.next g14)
  clear M0_13
  have E0_14 := Lib.hid (E0_13.out.next g14)
  clear E0_13
  clear g14
  have CX15 := Lib.hid (show Calls Try.prog 44 #[.slice A0G N0r d0G, .int .i64 1] _ _ from uHeldI _ A0G N0r d0G (1) w14 (by omega) HL0.out (M0_14.out.here))
  go_wp2_with fail
  refine CX15.out.mono ?_
  rintro e w' ⟨rfl, rfl⟩
  clear CX15
  have hq15 : ¬ ((1 + N0r : Nat) : Int) < 0 := by omega
  have hqm15 : (((1 + N0r : Nat) : Int) != ((1 + N0r : Nat) : Int)) = false := by simp
  go_wp2_with fail
  go_ret
  exact ⟨rfl, B_14.out.here⟩
end Go.Proofs.Ytlogbgkbdjdkkaa
