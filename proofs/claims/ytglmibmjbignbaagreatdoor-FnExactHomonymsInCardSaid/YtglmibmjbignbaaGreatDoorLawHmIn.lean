/-
  The law of HomonymsIn: its call answers true.
-/
import Derived.Test.YtglmibmjbignbaaGreatDoorMz23
import Derived.Test.YtglmibmjbignbaaGreatDoorMz13
import Derived.Test.YtglmibmjbignbaaGreatDoorMz27
namespace Go.Proofs.YtglmibmjbignbaaGreatDoor
set_option linter.unusedVariables false
open Go.RowKit

set_option maxHeartbeats 4000000 in
set_option maxRecDepth 100000 in
theorem wHmIn (a0 : Option Addr) (n0 c0 : Nat) (xs0 : List Pl) (x1 : Int) (w : World) (hm0 : n0 ≤ maxLen) (hS0 : ∀ p ∈ xs0, SzL p) (hn0 : PlAt w w.heap.size a0 n0 xs0) (hsh : w.ShapedOpen Tryz.prog) (her : Er6 w) :
    Calls Tryz.prog 7 #[.slice a0 n0 c0, .int .i64 x1] w fun e w' => e = .returned (.bool true) ∧ Below w.heap.size w w' := by
  have S0 : Hid (Calls Tryz.prog 40 #[.slice a0 n0 c0, .int .i64 1048576] w (Left (n0 + totPs xs0) 1048576 w)) := Lib.hid (uSzPl a0 n0 c0 xs0 1048576 w (by omega) (by omega) hm0 hS0 hn0)
  clear hS0
  have N0_0 := Lib.hid (Sp.pl hn0)
  clear hn0
  have B_0 := Lib.hid ((Sp.from_ w))
  have HSH : Hid (∀ W, Below w.heap.size w W → W.ShapedOpen Tryz.prog) := Lib.hid (fun W hW => shaped_below hsh hW)
  clear hsh
  have HER : Hid (∀ W, Below w.heap.size w W → Er6 W) := Lib.hid (fun W hW => her.below hW)
  clear her
  unfold maxLen at hm0
  obtain ⟨N0r, hN0r⟩ : ∃ N, N = (hmZ xs0 x1).length := ⟨_, rfl⟩
  have HL0 : Hid (N0r ≤ 1048576) := Lib.hid (by rw [hN0r]; exact hmZ_len xs0 x1)
  have CS : Hid (∀ (W : World) (A0 : Option Addr) (c0 : Nat), Below w.heap.size w W → n0 ≤ c0 → n0 ≤ 1048576 → Sz11 xs0 → PlAt W W.heap.size A0 n0 xs0 → Calls Tryz.prog 20 #[.slice A0 n0 c0, .int .i64 x1] W (OutT11 (hmZ xs0 x1) (pyC xs0 x1) W)) := Lib.hid (fun W A0 c0 hW hcap0 hb0 hl0 N0 => cHm_spec A0 n0 c0 xs0 x1 W hb0 hl0 N0)
  have CI : Hid (∀ (W : World) (A0 : Option Addr) (c0 : Nat), Below w.heap.size w W → n0 ≤ c0 → n0 ≤ 1048576 → Sz11 xs0 → PlAt W W.heap.size A0 n0 xs0 → Calls Tryz.prog 19 #[.slice A0 n0 c0, .int .i64 x1] W (OutT11 (hmZ xs0 x1) (pyC xs0 x1) W)) := Lib.hid (fun W A0 c0 hW hcap0 hb0 hl0 N0 => cHm_impl A0 n0 c0 xs0 x1 W hb0 hl0 N0 (HSH.out W hW) (HER.out W hW))
  obtain ⟨v0, hv0⟩ : ∃ v, v = hmZ xs0 x1 := ⟨_, rfl⟩
  rw [← hv0] at CS CI hN0r
  have HN0 := Lib.hid hN0r
  clear hN0r
  clear hv0
  obtain ⟨v1, hv1⟩ : ∃ v, v = pyC xs0 x1 := ⟨_, rfl⟩
  rw [← hv1] at CS CI
  clear hv1
  have hd1 : (v1 != v1) = false := by simp
  go_enter Tryz.func7, Tryz.ntmps7
  go_wp2_with fail
  refine S0.out.mono ?_
  rintro e w1 ⟨r0, hr0, rfl, g1⟩
  by_cases hrn0 : r0 < 0
  · have hr1 : r0 ≤ 1048576 := by omega
    clear hr0
    go_wp2_with fail
    go_ret
    exact ⟨rfl, g1⟩
  have ht0 : r0 + ((n0 + totPs xs0 : Nat) : Int) = 1048576 := by rcases hr0 with h | h; omega; exact h.2
  have hb0 : n0 ≤ 1048576 := by omega
  have hl0 : Sz11 xs0 := sz_of_tots (by omega)
  have HTT0 : Hid (n0 + totPs xs0 ≤ 1048576) := Lib.hid (by omega)
  have hrs0 : r0 ≤ 1048576 := by omega
  have hrz0 : 0 ≤ r0 := by omega
  have HLS0 := Lib.hid hl0
  clear hr0 hl0 ht0
  have SZ1 : Hid (w.heap.size ≤ w1.heap.size) := Lib.hid g1.size
  have B_1 := Lib.hid (B_0.out.next g1)
  clear B_0
  have N0_1 := Lib.hid (N0_0.out.next g1)
  clear N0_0
  clear g1 S0
  have CX2 := Lib.hid (uToPl a0 n0 c0 xs0 w1 hb0 HLS0.out (N0_1.out.here))
  go_wp2_with fail
  refine CX2.out.mono ?_
  rintro e w2 ⟨P0K, es0K, rfl, he2, o2, g2⟩
  clear CX2
  have HE0K := Lib.hid he2
  clear he2
  have SZ2 : Hid (w1.heap.size ≤ w2.heap.size) := Lib.hid g2.size
  have B_2 := Lib.hid (B_1.out.next g2)
  clear B_1
  have N0_2 := Lib.hid (N0_1.out.next g2)
  clear N0_1
  have K0_2 := Lib.hid (Sp.own o2 (Nat.le_refl _))
  clear g2 o2
  have CX3 := Lib.hid (CS.out w2 _ n0 (B_2.out.here) (Nat.le_refl _) hb0 HLS0.out (own_pl2 (K0_2.out.here) HE0K.out))
  go_wp2_with fail
  refine CX3.out.mono ?_
  rintro e w3 ⟨A0R, m0R, d0R, rfl, o3R0, g3⟩
  clear CX3
  obtain rfl : N0r = m0R := by rw [HN0.out]; have h1 := o3R0.1; rw [strV_len] at h1; omega
  clear K0_2
  have SZ3 : Hid (w2.heap.size ≤ w3.heap.size) := Lib.hid g3.size
  have B_3 := Lib.hid (B_2.out.next g3)
  clear B_2
  have N0_3 := Lib.hid (N0_2.out.next g3)
  clear N0_2
  have R0_3 := Lib.hid (Sp.row o3R0)
  clear g3 o3R0
  have CX4 := Lib.hid (uToPl a0 n0 c0 xs0 w3 hb0 HLS0.out (N0_3.out.here))
  go_wp2_with fail
  refine CX4.out.mono ?_
  rintro e w4 ⟨P0X, es0X, rfl, he4, o4, g4⟩
  clear CX4
  have HE0X := Lib.hid he4
  clear he4
  have SZ4 : Hid (w3.heap.size ≤ w4.heap.size) := Lib.hid g4.size
  have B_4 := Lib.hid (B_3.out.next g4)
  clear B_3
  have N0_4 := Lib.hid (N0_3.out.next g4)
  clear N0_3
  have R0_4 := Lib.hid (R0_3.out.next g4)
  clear R0_3
  have X0_4 := Lib.hid (Sp.own o4 (Nat.le_refl _))
  clear g4 o4
  have CX5 := Lib.hid (CI.out w4 _ n0 (B_4.out.here) (Nat.le_refl _) hb0 HLS0.out (own_pl2 (X0_4.out.here) HE0X.out))
  go_wp2_with fail
  refine CX5.out.mono ?_
  rintro e w5 ⟨A0G, m0G, d0G, rfl, o5G0, g5⟩
  clear CX5
  obtain rfl : N0r = m0G := by rw [HN0.out]; have h1 := o5G0.1; rw [strV_len] at h1; omega
  have SZ5 : Hid (w4.heap.size ≤ w5.heap.size) := Lib.hid g5.size
  have B_5 := Lib.hid (B_4.out.next g5)
  clear B_4
  have N0_5 := Lib.hid (N0_4.out.next g5)
  clear N0_4
  have R0_5 := Lib.hid (R0_4.out.next g5)
  clear R0_4
  have X0_5 := Lib.hid (X0_4.out.next g5)
  clear X0_4
  have G0_5 := Lib.hid (Sp.row o5G0)
  clear g5 o5G0
  have LTG0 : Hid (∀ k, (Value.slice A0G N0r d0G).ownBlock = some k → w4.heap.size ≤ k ∧ k < w5.heap.size) := Lib.hid (own_range (G0_5.out.here))
  have CX6 := Lib.hid (uEqS A0G A0R d0G d0R N0r _ _ v0 w5 HL0.out (G0_5.out.here) (R0_5.out.here))
  go_wp2_with fail
  refine CX6.out.mono ?_
  rintro e w6 ⟨rfl, g6⟩
  clear CX6
  have SZ6 : Hid (w5.heap.size ≤ w6.heap.size) := Lib.hid g6.size
  have B_6 := Lib.hid (B_5.out.next g6)
  clear B_5
  have N0_6 := Lib.hid (N0_5.out.next g6)
  clear N0_5
  have R0_6 := Lib.hid (R0_5.out.next g6)
  clear R0_5
  have X0_6 := Lib.hid (X0_5.out.next g6)
  clear X0_5
  have G0_6 := Lib.hid (G0_5.out.next g6)
  clear G0_5
  clear g6
  have CX7 := Lib.hid (uToPl a0 n0 c0 xs0 w6 hb0 HLS0.out (N0_6.out.here))
  go_wp2_with fail
  refine CX7.out.mono ?_
  rintro e w7 ⟨P0Y, es0Y, rfl, he7, o7, g7⟩
  clear CX7
  have HE0Y := Lib.hid he7
  clear he7
  have SZ7 : Hid (w6.heap.size ≤ w7.heap.size) := Lib.hid g7.size
  have B_7 := Lib.hid (B_6.out.next g7)
  clear B_6
  have N0_7 := Lib.hid (N0_6.out.next g7)
  clear N0_6
  have R0_7 := Lib.hid (R0_6.out.next g7)
  clear R0_6
  have X0_7 := Lib.hid (X0_6.out.next g7)
  clear X0_6
  have G0_7 := Lib.hid (G0_6.out.next g7)
  clear G0_6
  have Y0_7 := Lib.hid (Sp.own o7 (Nat.le_refl _))
  clear g7 o7
  have CX8 := Lib.hid (uEqPl P0X P0Y n0 n0 n0 xs0 w7 hb0 HLS0.out (own_pl2 (X0_7.out.here) HE0X.out) (own_pl2 (Y0_7.out.here) HE0Y.out))
  go_wp2_with fail
  refine CX8.out.mono ?_
  rintro e w8 ⟨rfl, g8⟩
  clear CX8
  clear Y0_7
  have SZ8 : Hid (w7.heap.size ≤ w8.heap.size) := Lib.hid g8.size
  have B_8 := Lib.hid (B_7.out.next g8)
  clear B_7
  have N0_8 := Lib.hid (N0_7.out.next g8)
  clear N0_7
  have R0_8 := Lib.hid (R0_7.out.next g8)
  clear R0_7
  have X0_8 := Lib.hid (X0_7.out.next g8)
  clear X0_7
  have G0_8 := Lib.hid (G0_7.out.next g8)
  clear G0_7
  clear g8
  have hw0 : wideL es0X ≤ 5 * 1048576 := by have h1 := wide_tot es0X; rw [HE0X.out] at h1; have h2 := HTT0.out; have h3 := congrArg List.length HE0X.out; rw [plsOf_len] at h3; have h4 := (X0_8.out.here).len; omega
  have CX9 := Lib.hid (show Calls Tryz.prog 44 #[.slice P0X n0 n0, .int .i64 1] _ _ from uMarkPl _ _ P0X n0 n0 (1) es0X w8 (by omega) (by omega) hb0 (fun e he => (HLS0.out e.p (by rw [← HE0X.out]; exact List.mem_map_of_mem he)).2.1) (X0_8.out.here))
  go_wp2_with fail
  refine CX9.out.mono ?_
  rintro e w9 ⟨rfl, o9m, g9⟩
  clear CX9
  clear X0_8
  have SZ9 : Hid (w8.heap.size ≤ w9.heap.size) := Lib.hid g9.size
  have B_9 := Lib.hid (B_8.out.markI g9 (by have s0 := SZ1.out; have s1 := SZ2.out; have s2 := SZ3.out; have s3 := SZ4.out; have s4 := SZ5.out; have s5 := SZ6.out; have s6 := SZ7.out; have s7 := SZ8.out; have s8 := SZ9.out; have h1 := True.intro; omega))
  clear B_8
  have N0_9 := Lib.hid (N0_8.out.markI g9 (by have s0 := SZ1.out; have s1 := SZ2.out; have s2 := SZ3.out; have s3 := SZ4.out; have s4 := SZ5.out; have s5 := SZ6.out; have s6 := SZ7.out; have s7 := SZ8.out; have s8 := SZ9.out; have h1 := True.intro; omega))
  clear N0_8
  have R0_9 := Lib.hid (R0_8.out.markI g9 (by have s0 := SZ1.out; have s1 := SZ2.out; have s2 := SZ3.out; have s3 := SZ4.out; have s4 := SZ5.out; have s5 := SZ6.out; have s6 := SZ7.out; have s7 := SZ8.out; have s8 := SZ9.out; have h1 := True.intro; omega))
  clear R0_8
  have G0_9 := Lib.hid (G0_8.out.markI g9 (by have s0 := SZ1.out; have s1 := SZ2.out; have s2 := SZ3.out; have s3 := SZ4.out; have s4 := SZ5.out; have s5 := SZ6.out; have s6 := SZ7.out; have s7 := SZ8.out; have s8 := SZ9.out; have h1 := True.intro; omega))
  clear G0_8
  clear g9 o9m
  have hkk : ¬ ((1 + wideL es0X : Nat) : Int) < 0 := by omega
  have CX10 := Lib.hid (uEqS A0G A0R d0G d0R N0r _ _ v0 w9 HL0.out (G0_9.out.here) (R0_9.out.here))
  go_wp2_with fail
  refine CX10.out.mono ?_
  rintro e w10 ⟨rfl, g10⟩
  clear CX10
  have SZ10 : Hid (w9.heap.size ≤ w10.heap.size) := Lib.hid g10.size
  have B_10 := Lib.hid (B_9.out.next g10)
  clear B_9
  have N0_10 := Lib.hid (N0_9.out.next g10)
  clear N0_9
  have R0_10 := Lib.hid (R0_9.out.next g10)
  clear R0_9
  have G0_10 := Lib.hid (G0_9.out.next g10)
  clear G0_9
  clear g10
  clear hkk
  have CX11 := Lib.hid (show Calls Tryz.prog 45 #[.slice A0G N0r d0G, .int .i64 1] _ _ from uMarkS2 _ A0G N0r d0G (1) _ w10 (by omega) (by omega) HL0.out (G0_10.out.here))
  go_wp2_with fail
  refine CX11.out.mono ?_
  rintro e w11 ⟨rfl, o11m, g11⟩
  clear CX11
  clear G0_10
  have SZ11 : Hid (w10.heap.size ≤ w11.heap.size) := Lib.hid g11.size
  have B_11 := Lib.hid (B_10.out.mark g11 (fun k hk => by have h1 := LTG0.out k hk; have s0 := SZ1.out; have s1 := SZ2.out; have s2 := SZ3.out; have s3 := SZ4.out; have s4 := SZ5.out; have s5 := SZ6.out; have s6 := SZ7.out; have s7 := SZ8.out; have s8 := SZ9.out; have s9 := SZ10.out; have s10 := SZ11.out; omega))
  clear B_10
  have N0_11 := Lib.hid (N0_10.out.mark g11 (fun k hk => by have h1 := LTG0.out k hk; have s0 := SZ1.out; have s1 := SZ2.out; have s2 := SZ3.out; have s3 := SZ4.out; have s4 := SZ5.out; have s5 := SZ6.out; have s6 := SZ7.out; have s7 := SZ8.out; have s8 := SZ9.out; have s9 := SZ10.out; have s10 := SZ11.out; omega))
  clear N0_10
  have R0_11 := Lib.hid (R0_10.out.mark g11 (fun k hk => by have h1 := LTG0.out k hk; have s0 := SZ1.out; have s1 := SZ2.out; have s2 := SZ3.out; have s3 := SZ4.out; have s4 := SZ5.out; have s5 := SZ6.out; have s6 := SZ7.out; have s7 := SZ8.out; have s8 := SZ9.out; have s9 := SZ10.out; have s10 := SZ11.out; omega))
  clear R0_10
  have M0_11 := Lib.hid (Sp.again (hi := w5.heap.size) o11m (fun k hk => (LTG0.out k hk).2) (by have s0 := SZ1.out; have s1 := SZ2.out; have s2 := SZ3.out; have s3 := SZ4.out; have s4 := SZ5.out; have s5 := SZ6.out; have s6 := SZ7.out; have s7 := SZ8.out; have s8 := SZ9.out; have s9 := SZ10.out; have s0 := SZ11.out; omega))
  clear g11 o11m
  have CX12 := Lib.hid (show Calls Tryz.prog 46 #[.slice A0G N0r d0G, .int .i64 1] _ _ from uHeldS2 _ A0G N0r d0G (1) w11 (by omega) (by omega) HL0.out (M0_11.out.here))
  go_wp2_with fail
  refine CX12.out.mono ?_
  rintro e w12 ⟨rfl, g12⟩
  clear CX12
  have SZ12 : Hid (w11.heap.size ≤ w12.heap.size) := Lib.hid g12.size
  have B_12 := Lib.hid (B_11.out.next g12)
  clear B_11
  have N0_12 := Lib.hid (N0_11.out.next g12)
  clear N0_11
  have R0_12 := Lib.hid (R0_11.out.next g12)
  clear R0_11
  have M0_12 := Lib.hid (M0_11.out.next g12)
  clear M0_11
  clear g12
  have hq12 : ¬ ((1 + N0r : Nat) : Int) < 0 := by omega
  have hqm12 : (((1 + N0r : Nat) : Int) != ((1 + N0r : Nat) : Int)) = false := by simp
  have CX13 := Lib.hid (uToPl a0 n0 c0 xs0 w12 hb0 HLS0.out (N0_12.out.here))
  go_wp2_with fail
  refine CX13.out.mono ?_
  rintro e w13 ⟨P0Z, es0Z, rfl, he13, o13, g13⟩
  clear CX13
  have HE0Z := Lib.hid he13
  clear he13
  have SZ13 : Hid (w12.heap.size ≤ w13.heap.size) := Lib.hid g13.size
  have B_13 := Lib.hid (B_12.out.next g13)
  clear B_12
  have N0_13 := Lib.hid (N0_12.out.next g13)
  clear N0_12
  have R0_13 := Lib.hid (R0_12.out.next g13)
  clear R0_12
  have M0_13 := Lib.hid (M0_12.out.next g13)
  clear M0_12
  have Z0_13 := Lib.hid (Sp.own o13 (Nat.le_refl _))
  clear g13 o13
  have CX14 := Lib.hid (CI.out w13 _ n0 (B_13.out.here) (Nat.le_refl _) hb0 HLS0.out (own_pl2 (Z0_13.out.here) HE0Z.out))
  go_wp2_with fail
  refine CX14.out.mono ?_
  rintro e w14 ⟨A0E, m0E, d0E, rfl, o14E0, g14⟩
  clear CX14
  obtain rfl : N0r = m0E := by rw [HN0.out]; have h1 := o14E0.1; rw [strV_len] at h1; omega
  clear Z0_13
  have SZ14 : Hid (w13.heap.size ≤ w14.heap.size) := Lib.hid g14.size
  have B_14 := Lib.hid (B_13.out.next g14)
  clear B_13
  have N0_14 := Lib.hid (N0_13.out.next g14)
  clear N0_13
  have R0_14 := Lib.hid (R0_13.out.next g14)
  clear R0_13
  have M0_14 := Lib.hid (M0_13.out.next g14)
  clear M0_13
  have E0_14 := Lib.hid (Sp.row o14E0)
  clear g14 o14E0
  have CX15 := Lib.hid (uEqS A0E A0R d0E d0R N0r _ _ v0 w14 HL0.out (E0_14.out.here) (R0_14.out.here))
  go_wp2_with fail
  refine CX15.out.mono ?_
  rintro e w15 ⟨rfl, g15⟩
  clear CX15
  have SZ15 : Hid (w14.heap.size ≤ w15.heap.size) := Lib.hid g15.size
  have B_15 := Lib.hid (B_14.out.next g15)
  clear B_14
  have N0_15 := Lib.hid (N0_14.out.next g15)
  clear N0_14
  have R0_15 := Lib.hid (R0_14.out.next g15)
  clear R0_14
  have M0_15 := Lib.hid (M0_14.out.next g15)
  clear M0_14
  have E0_15 := Lib.hid (E0_14.out.next g15)
  clear E0_14
  clear g15
  have CX16 := Lib.hid (show Calls Tryz.prog 46 #[.slice A0G N0r d0G, .int .i64 1] _ _ from uHeldS2 _ A0G N0r d0G (1) w15 (by omega) (by omega) HL0.out (M0_15.out.here))
  go_wp2_with fail
  refine CX16.out.mono ?_
  rintro e w16 ⟨rfl, g16⟩
  clear CX16
  have SZ16 : Hid (w15.heap.size ≤ w16.heap.size) := Lib.hid g16.size
  have B_16 := Lib.hid (B_15.out.next g16)
  clear B_15
  have N0_16 := Lib.hid (N0_15.out.next g16)
  clear N0_15
  have R0_16 := Lib.hid (R0_15.out.next g16)
  clear R0_15
  have M0_16 := Lib.hid (M0_15.out.next g16)
  clear M0_15
  have E0_16 := Lib.hid (E0_15.out.next g16)
  clear E0_15
  clear g16
  have hq16 : ¬ ((1 + N0r : Nat) : Int) < 0 := by omega
  have hqm16 : (((1 + N0r : Nat) : Int) != ((1 + N0r : Nat) : Int)) = false := by simp
  go_wp2_with fail
  go_ret
  exact ⟨rfl, B_16.out.here⟩
end Go.Proofs.YtglmibmjbignbaaGreatDoor
