/-
  The law of NameOf: its call answers true.
-/
import Derived.Test.YtglmibmjbignbaaGreatDoorMz4
import Derived.Test.YtglmibmjbignbaaGreatDoorMz13
import Derived.Test.YtglmibmjbignbaaGreatDoorMz21
import Derived.Test.YtglmibmjbignbaaGreatDoorMz22
namespace Go.Proofs.YtglmibmjbignbaaGreatDoor
set_option linter.unusedVariables false
open Go.RowKit

set_option maxHeartbeats 4000000 in
set_option maxRecDepth 100000 in
theorem wNaOf (a0 : Option Addr) (n0 c0 : Nat) (xs0 : List Pl) (s1 : ByteArray) (h1 : s1.size ≤ maxLen) (a2 : Option Addr) (n2 c2 : Nat) (z2 : List ByteArray) (x3 : Int) (w : World) (hm0 : n0 ≤ maxLen) (hS0 : ∀ p ∈ xs0, SzL p) (hn0 : PlAt w w.heap.size a0 n0 xs0) (h2 : IsStrs w a2 n2 c2 z2) (hsh : w.ShapedOpen Tryz.prog) (her : Er8 w) :
    Calls Tryz.prog 8 #[.slice a0 n0 c0, .string s1, .slice a2 n2 c2, .int .i64 x3] w fun e w' => e = .returned (.bool true) ∧ Below w.heap.size w w' := by
  have S0 : Hid (Calls Tryz.prog 40 #[.slice a0 n0 c0, .int .i64 1048576] w (Left (n0 + totPs xs0) 1048576 w)) := Lib.hid (uSzPl a0 n0 c0 xs0 1048576 w (by omega) (by omega) hm0 hS0 hn0)
  clear hS0
  have N0_0 := Lib.hid (Sp.pl hn0)
  clear hn0
  obtain ⟨hm2, hS2, hn2⟩ := textAt_arg h2
  clear h2
  obtain ⟨xs2, hxs2⟩ : ∃ xs, xs = z2.take n2 := ⟨_, rfl⟩
  rw [← hxs2] at hn2 hS2
  clear hxs2
  have HSX2 := Lib.hid hS2
  clear hS2
  have N2_0 := Lib.hid (Sp.text hn2)
  clear hn2
  have B_0 := Lib.hid ((Sp.from_ w))
  have HSH : Hid (∀ W, Below w.heap.size w W → W.ShapedOpen Tryz.prog) := Lib.hid (fun W hW => shaped_below hsh hW)
  clear hsh
  have HER : Hid (∀ W, Below w.heap.size w W → Er8 W) := Lib.hid (fun W hW => her.below hW)
  clear her
  unfold maxLen at hm0
  unfold maxLen at h1
  unfold maxLen at hm2
  by_cases hbig1 : 1048576 < s1.size
  · go_enter Tryz.func8, Tryz.ntmps8
    go_wp2_with fail
    go_ret
    exact ⟨rfl, Below.refl _ _⟩
  have hs1 : s1.size ≤ 1048576 := by omega
  have CS : Hid (∀ (W : World) (A0 : Option Addr) (c0 : Nat) (A2 : Option Addr) (c2 : Nat), Below w.heap.size w W → n0 ≤ c0 → n2 ≤ c2 → n0 ≤ 1048576 → Sz11 xs0 → n2 ≤ 1048576 → (∀ x ∈ xs2, x.size ≤ 1048576) → PlAt W W.heap.size A0 n0 xs0 → TextAt W W.heap.size A2 n2 xs2 → Calls Tryz.prog 37 #[.slice A0 n0 c0, .string s1, .slice A2 n2 c2, .int .i64 x3] W fun e w' => e = .returned (.tuple #[.string (naT xs0 s1 xs2 x3), .int .i64 (naC xs0 s1 xs2 x3)]) ∧ Below W.heap.size W w') := Lib.hid (fun W A0 c0 A2 c2 hW hcap0 hcap2 hb0 hl0 hb2 hl2 N0 N2 => cNa_spec A0 A2 n0 c0 n2 c2 xs0 s1 xs2 x3 W hb0 hb2 hl0 (by unfold maxLen; omega) (fun x hx => by have := hl2 x hx; unfold maxLen; omega) N0 N2)
  have CI : Hid (∀ (W : World) (A0 : Option Addr) (c0 : Nat) (A2 : Option Addr) (c2 : Nat), Below w.heap.size w W → n0 ≤ c0 → n2 ≤ c2 → n0 ≤ 1048576 → Sz11 xs0 → n2 ≤ 1048576 → (∀ x ∈ xs2, x.size ≤ 1048576) → PlAt W W.heap.size A0 n0 xs0 → TextAt W W.heap.size A2 n2 xs2 → Calls Tryz.prog 36 #[.slice A0 n0 c0, .string s1, .slice A2 n2 c2, .int .i64 x3] W fun e w' => e = .returned (.tuple #[.string (naT xs0 s1 xs2 x3), .int .i64 (naC xs0 s1 xs2 x3)]) ∧ Below W.heap.size W w') := Lib.hid (fun W A0 c0 A2 c2 hW hcap0 hcap2 hb0 hl0 hb2 hl2 N0 N2 => cNa_impl A0 A2 n0 c0 n2 c2 xs0 s1 xs2 x3 W hb0 hb2 hl0 (by unfold maxLen; omega) (fun x hx => by have := hl2 x hx; unfold maxLen; omega) N0 N2 (HSH.out W hW) (HER.out W hW))
  obtain ⟨v0, hv0⟩ : ∃ v, v = naT xs0 s1 xs2 x3 := ⟨_, rfl⟩
  rw [← hv0] at CS CI
  clear hv0
  obtain ⟨v1, hv1⟩ : ∃ v, v = naC xs0 s1 xs2 x3 := ⟨_, rfl⟩
  rw [← hv1] at CS CI
  clear hv1
  have hd0 : (v0.toList != v0.toList) = false := by simp
  have hD0 : (v0.toList == v0.toList) = true := by simp
  have hd1 : (v1 != v1) = false := by simp
  go_enter Tryz.func8, Tryz.ntmps8
  go_wp2_with fail
  refine S0.out.mono ?_
  rintro e w1 ⟨r0, hr0, rfl, g1⟩
  by_cases hrn0 : r0 < 0
  · have hr1 : r0 ≤ 1048576 := by omega
    clear hr0
    go_wp2_with fail
    go_ret
    exact ⟨rfl, g1⟩
  have ht0 : r0 + ((n0 + totPs xs0 : Nat) : Int) = 1048576 := by rcases hr0 with h | h; omega; exact h.2
  have hb0 : n0 ≤ 1048576 := by omega
  have hl0 : Sz11 xs0 := sz_of_tots (by omega)
  have HTT0 : Hid (n0 + totPs xs0 ≤ 1048576) := Lib.hid (by omega)
  have hrs0 : r0 ≤ 1048576 := by omega
  have hrz0 : 0 ≤ r0 := by omega
  have HLS0 := Lib.hid hl0
  clear hr0 hl0 ht0
  have SZ1 : Hid (w.heap.size ≤ w1.heap.size) := Lib.hid g1.size
  have B_1 := Lib.hid (B_0.out.next g1)
  clear B_0
  have N0_1 := Lib.hid (N0_0.out.next g1)
  clear N0_0
  have N2_1 := Lib.hid (N2_0.out.next g1)
  clear N2_0
  clear g1 S0
  have S2 := Lib.hid (fun (r : Int) h0 h1 => tSz2 a2 n2 c2 _ xs2 r h0 h1 w1 hm2 HSX2.out (N2_1.out.here))
  go_wp2_with fail
  refine (S2.out r0 hrz0 hrs0).mono ?_
  rintro e w' ⟨r2, hr2, rfl, rfl⟩
  by_cases hrn2 : r2 < 0
  · have hr1 := hr2.1
    clear hr2
    go_wp2_with fail
    go_ret
    exact ⟨rfl, B_1.out.here⟩
  obtain ⟨hb2, hl2⟩ : n2 ≤ 1048576 ∧ ∀ x ∈ xs2, x.size ≤ 1048576 := by rcases hr2.2 with h | h; omega; exact h
  have hrs2 := hr2.1
  have hrz2 : 0 ≤ r2 := by omega
  have HLS2 := Lib.hid hl2
  clear hr2 hl2 S2 HSX2
  have CX2 := Lib.hid (uToPl a0 n0 c0 xs0 w1 hb0 HLS0.out (N0_1.out.here))
  go_wp2_with fail
  refine CX2.out.mono ?_
  rintro e w2 ⟨P0K, es0K, rfl, he2, o2, g2⟩
  clear CX2
  have HE0K := Lib.hid he2
  clear he2
  have SZ2 : Hid (w1.heap.size ≤ w2.heap.size) := Lib.hid g2.size
  have B_2 := Lib.hid (B_1.out.next g2)
  clear B_1
  have N0_2 := Lib.hid (N0_1.out.next g2)
  clear N0_1
  have N2_2 := Lib.hid (N2_1.out.next g2)
  clear N2_1
  have K0_2 := Lib.hid (Sp.own o2 (Nat.le_refl _))
  clear g2 o2
  have CX3 := Lib.hid (uToS a2 n2 c2 xs2 w2 hb2 N2_2.out.here)
  go_wp2_with fail
  refine CX3.out.mono ?_
  rintro e w3 ⟨P2K, rfl, o3, g3⟩
  clear CX3
  have SZ3 : Hid (w2.heap.size ≤ w3.heap.size) := Lib.hid g3.size
  have B_3 := Lib.hid (B_2.out.next g3)
  clear B_2
  have N0_3 := Lib.hid (N0_2.out.next g3)
  clear N0_2
  have N2_3 := Lib.hid (N2_2.out.next g3)
  clear N2_2
  have K0_3 := Lib.hid (K0_2.out.next g3)
  clear K0_2
  have K2_3 := Lib.hid (Sp.row o3)
  clear g3 o3
  have CX4 := Lib.hid (CS.out w3 _ n0 _ n2 (B_3.out.here) (Nat.le_refl _) (Nat.le_refl _) hb0 HLS0.out hb2 HLS2.out (own_pl2 (K0_3.out.here) HE0K.out) (own_text (K2_3.out.here)))
  go_wp2_with fail
  refine CX4.out.mono ?_
  rintro e w4 ⟨rfl, g4⟩
  clear CX4
  clear K0_3
  clear K2_3
  have SZ4 : Hid (w3.heap.size ≤ w4.heap.size) := Lib.hid g4.size
  have B_4 := Lib.hid (B_3.out.next g4)
  clear B_3
  have N0_4 := Lib.hid (N0_3.out.next g4)
  clear N0_3
  have N2_4 := Lib.hid (N2_3.out.next g4)
  clear N2_3
  clear g4
  have CX5 := Lib.hid (uToPl a0 n0 c0 xs0 w4 hb0 HLS0.out (N0_4.out.here))
  go_wp2_with fail
  refine CX5.out.mono ?_
  rintro e w5 ⟨P0X, es0X, rfl, he5, o5, g5⟩
  clear CX5
  have HE0X := Lib.hid he5
  clear he5
  have SZ5 : Hid (w4.heap.size ≤ w5.heap.size) := Lib.hid g5.size
  have B_5 := Lib.hid (B_4.out.next g5)
  clear B_4
  have N0_5 := Lib.hid (N0_4.out.next g5)
  clear N0_4
  have N2_5 := Lib.hid (N2_4.out.next g5)
  clear N2_4
  have X0_5 := Lib.hid (Sp.own o5 (Nat.le_refl _))
  clear g5 o5
  have CX6 := Lib.hid (uToS a2 n2 c2 xs2 w5 hb2 N2_5.out.here)
  go_wp2_with fail
  refine CX6.out.mono ?_
  rintro e w6 ⟨P2X, rfl, o6, g6⟩
  clear CX6
  have SZ6 : Hid (w5.heap.size ≤ w6.heap.size) := Lib.hid g6.size
  have B_6 := Lib.hid (B_5.out.next g6)
  clear B_5
  have N0_6 := Lib.hid (N0_5.out.next g6)
  clear N0_5
  have N2_6 := Lib.hid (N2_5.out.next g6)
  clear N2_5
  have X0_6 := Lib.hid (X0_5.out.next g6)
  clear X0_5
  have X2_6 := Lib.hid (Sp.row o6)
  clear g6 o6
  have CX7 := Lib.hid (CI.out w6 _ n0 _ n2 (B_6.out.here) (Nat.le_refl _) (Nat.le_refl _) hb0 HLS0.out hb2 HLS2.out (own_pl2 (X0_6.out.here) HE0X.out) (own_text (X2_6.out.here)))
  go_wp2_with fail
  refine CX7.out.mono ?_
  rintro e w7 ⟨rfl, g7⟩
  clear CX7
  have SZ7 : Hid (w6.heap.size ≤ w7.heap.size) := Lib.hid g7.size
  have B_7 := Lib.hid (B_6.out.next g7)
  clear B_6
  have N0_7 := Lib.hid (N0_6.out.next g7)
  clear N0_6
  have N2_7 := Lib.hid (N2_6.out.next g7)
  clear N2_6
  have X0_7 := Lib.hid (X0_6.out.next g7)
  clear X0_6
  have X2_7 := Lib.hid (X2_6.out.next g7)
  clear X2_6
  clear g7
  have CX8 := Lib.hid (uToPl a0 n0 c0 xs0 w7 hb0 HLS0.out (N0_7.out.here))
  go_wp2_with fail
  refine CX8.out.mono ?_
  rintro e w8 ⟨P0Y, es0Y, rfl, he8, o8, g8⟩
  clear CX8
  have HE0Y := Lib.hid he8
  clear he8
  have SZ8 : Hid (w7.heap.size ≤ w8.heap.size) := Lib.hid g8.size
  have B_8 := Lib.hid (B_7.out.next g8)
  clear B_7
  have N0_8 := Lib.hid (N0_7.out.next g8)
  clear N0_7
  have N2_8 := Lib.hid (N2_7.out.next g8)
  clear N2_7
  have X0_8 := Lib.hid (X0_7.out.next g8)
  clear X0_7
  have X2_8 := Lib.hid (X2_7.out.next g8)
  clear X2_7
  have Y0_8 := Lib.hid (Sp.own o8 (Nat.le_refl _))
  clear g8 o8
  have CX9 := Lib.hid (uEqPl P0X P0Y n0 n0 n0 xs0 w8 hb0 HLS0.out (own_pl2 (X0_8.out.here) HE0X.out) (own_pl2 (Y0_8.out.here) HE0Y.out))
  go_wp2_with fail
  refine CX9.out.mono ?_
  rintro e w9 ⟨rfl, g9⟩
  clear CX9
  clear Y0_8
  clear X0_8
  have SZ9 : Hid (w8.heap.size ≤ w9.heap.size) := Lib.hid g9.size
  have B_9 := Lib.hid (B_8.out.next g9)
  clear B_8
  have N0_9 := Lib.hid (N0_8.out.next g9)
  clear N0_8
  have N2_9 := Lib.hid (N2_8.out.next g9)
  clear N2_8
  have X2_9 := Lib.hid (X2_8.out.next g9)
  clear X2_8
  clear g9
  have CX10 := Lib.hid (uToS a2 n2 c2 xs2 w9 hb2 N2_9.out.here)
  go_wp2_with fail
  refine CX10.out.mono ?_
  rintro e w10 ⟨P2Y, rfl, o10, g10⟩
  clear CX10
  have SZ10 : Hid (w9.heap.size ≤ w10.heap.size) := Lib.hid g10.size
  have B_10 := Lib.hid (B_9.out.next g10)
  clear B_9
  have N0_10 := Lib.hid (N0_9.out.next g10)
  clear N0_9
  have N2_10 := Lib.hid (N2_9.out.next g10)
  clear N2_9
  have X2_10 := Lib.hid (X2_9.out.next g10)
  clear X2_9
  have Y2_10 := Lib.hid (Sp.row o10)
  clear g10 o10
  have CX11 := Lib.hid (uEqS P2X P2Y n2 n2 n2 _ _ xs2 w10 hb2 (X2_10.out.here) (Y2_10.out.here))
  go_wp2_with fail
  refine CX11.out.mono ?_
  rintro e w11 ⟨rfl, g11⟩
  clear CX11
  clear Y2_10
  clear X2_10
  have SZ11 : Hid (w10.heap.size ≤ w11.heap.size) := Lib.hid g11.size
  have B_11 := Lib.hid (B_10.out.next g11)
  clear B_10
  have N0_11 := Lib.hid (N0_10.out.next g11)
  clear N0_10
  have N2_11 := Lib.hid (N2_10.out.next g11)
  clear N2_10
  clear g11
  go_wp2_with fail
  go_ret
  exact ⟨rfl, B_11.out.here⟩
end Go.Proofs.YtglmibmjbignbaaGreatDoor
