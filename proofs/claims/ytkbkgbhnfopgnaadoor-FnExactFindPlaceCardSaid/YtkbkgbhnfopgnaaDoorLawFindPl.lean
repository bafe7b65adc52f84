/-
  The law of FindPlace: its call answers true.
-/
import Derived.Test.YtkbkgbhnfopgnaaDoorPlHeld
import Derived.Test.YtkbkgbhnfopgnaaDoorPlEx
import Derived.Test.YtkbkgbhnfopgnaaDoorPlFS
namespace Go.Proofs.YtkbkgbhnfopgnaaDoor
set_option linter.unusedVariables false
open Go.RowKit

set_option maxHeartbeats 4000000 in
set_option maxRecDepth 100000 in
theorem wFindPl (a0 : Option Addr) (n0 c0 : Nat) (xs0 : List Pl) (s1 : ByteArray) (h1 : s1.size ≤ maxLen) (w : World) (hm0 : n0 ≤ maxLen) (hS0 : ∀ p ∈ xs0, SzL p) (hn0 : PlAt w w.heap.size a0 n0 xs0) (hsh : w.ShapedOpen Tryd.prog) (her : Er6 w) :
    Calls Tryd.prog 5 #[.slice a0 n0 c0, .string s1] w fun e w' => e = .returned (.bool true) ∧ Below w.heap.size w w' := by
  have S0 : Hid (Calls Tryd.prog 14 #[.slice a0 n0 c0, .int .i64 1048576] w (Left (n0 + totPs xs0) 1048576 w)) := Lib.hid (uSzPl a0 n0 c0 xs0 1048576 w (by omega) (by omega) hm0 hS0 hn0)
  clear hS0
  have N0_0 := Lib.hid (Sp.pl hn0)
  clear hn0
  have B_0 := Lib.hid (Sp.from_ w)
  have HSH : Hid (∀ W, Below w.heap.size w W → W.ShapedOpen Tryd.prog) := Lib.hid (fun W hW => shaped_below hsh hW)
  clear hsh
  have HER : Hid (∀ W, Below w.heap.size w W → Er6 W) := Lib.hid (fun W hW => her.below hW)
  clear her
  unfold maxLen at hm0
  unfold maxLen at h1
  by_cases hbig1 : 1048576 < s1.size
  · go_enter Tryd.func5, Tryd.ntmps5
    go_wp2_with fail
    go_ret
    exact ⟨rfl, Below.refl _ _⟩
  have hs1 : s1.size ≤ 1048576 := by omega
  have CS : Hid (∀ (W : World) (A0 : Option Addr) (c0 : Nat), Below w.heap.size w W → n0 ≤ c0 → n0 ≤ 1048576 → Sz11 xs0 → PlAt W W.heap.size A0 n0 xs0 → Calls Tryd.prog 19 #[.slice A0 n0 c0, .string s1] W fun e w' => e = .returned (.tuple #[.int .i64 (plZ xs0 s1 0), .int .i64 (pcC xs0 s1 0)]) ∧ Below W.heap.size W w') := Lib.hid (fun W A0 c0 hW hcap0 hb0 hl0 N0 => cFind_spec A0 n0 c0 xs0 s1 W hb0 hl0 (by unfold maxLen; omega) N0)
  have CI : Hid (∀ (W : World) (A0 : Option Addr) (c0 : Nat), Below w.heap.size w W → n0 ≤ c0 → n0 ≤ 1048576 → Sz11 xs0 → PlAt W W.heap.size A0 n0 xs0 → Calls Tryd.prog 20 #[.slice A0 n0 c0, .string s1] W fun e w' => e = .returned (.tuple #[.int .i64 (plZ xs0 s1 0), .int .i64 (pcC xs0 s1 0)]) ∧ Below W.heap.size W w') := Lib.hid (fun W A0 c0 hW hcap0 hb0 hl0 N0 => cFind_impl A0 n0 c0 xs0 s1 W hb0 hl0 (by unfold maxLen; omega) N0 (HSH.out W hW) (HER.out W hW))
  obtain ⟨v0, hv0⟩ : ∃ v, v = plZ xs0 s1 0 := ⟨_, rfl⟩
  rw [← hv0] at CS CI
  clear hv0
  obtain ⟨v1, hv1⟩ : ∃ v, v = pcC xs0 s1 0 := ⟨_, rfl⟩
  rw [← hv1] at CS CI
  clear hv1
  have hd0 : (v0 != v0) = false := by simp
  have hd1 : (v1 != v1) = false := by simp
  go_enter Tryd.func5, Tryd.ntmps5
  go_wp2_with fail
  refine S0.out.mono ?_
  rintro e w1 ⟨r0, hr0, rfl, g1⟩
  by_cases hrn0 : r0 < 0
  · have hr1 : r0 ≤ 1048576 := by omega
    clear hr0
    go_wp2_with fail
    go_ret
    exact ⟨rfl, g1⟩
  have ht0 : r0 + ((n0 + totPs xs0 : Nat) : Int) = 1048576 := by rcases hr0 with h | h; omega; exact h.2
  have hb0 : n0 ≤ 1048576 := by omega
  have hl0 : Sz11 xs0 := sz_of_tots (by omega)
  have HTT0 : Hid (n0 + totPs xs0 ≤ 1048576) := Lib.hid (by omega)
  have hrs0 : r0 ≤ 1048576 := by omega
  have hrz0 : 0 ≤ r0 := by omega
  have HLS0 := Lib.hid hl0
  clear hr0 hl0 ht0
  have SZ1 : Hid (w.heap.size ≤ w1.heap.size) := Lib.hid g1.size
  have B_1 := Lib.hid (B_0.out.next g1)
  clear B_0
  have N0_1 := Lib.hid (N0_0.out.next g1)
  clear N0_0
  clear g1 S0
  have CX2 := Lib.hid (uToPl a0 n0 c0 xs0 w1 hb0 HLS0.out (N0_1.out.here))
  go_wp2_with fail
  refine CX2.out.mono ?_
  rintro e w2 ⟨P0K, es0K, rfl, he2, o2, g2⟩
  clear CX2
  have HE0K := Lib.hid he2
  clear he2
  have SZ2 : Hid (w1.heap.size ≤ w2.heap.size) := Lib.hid g2.size
  have B_2 := Lib.hid (B_1.out.next g2)
  clear B_1
  have N0_2 := Lib.hid (N0_1.out.next g2)
  clear N0_1
  have K0_2 := Lib.hid (Sp.own o2 (Nat.le_refl _))
  clear g2 o2
  have CX3 := Lib.hid (CS.out w2 _ n0 (B_2.out.here) (Nat.le_refl _) hb0 HLS0.out (own_pl2 (K0_2.out.here) HE0K.out))
  go_wp2_with fail
  refine CX3.out.mono ?_
  rintro e w3 ⟨rfl, g3⟩
  clear CX3
  clear K0_2
  have SZ3 : Hid (w2.heap.size ≤ w3.heap.size) := Lib.hid g3.size
  have B_3 := Lib.hid (B_2.out.next g3)
  clear B_2
  have N0_3 := Lib.hid (N0_2.out.next g3)
  clear N0_2
  clear g3
  have CX4 := Lib.hid (uToPl a0 n0 c0 xs0 w3 hb0 HLS0.out (N0_3.out.here))
  go_wp2_with fail
  refine CX4.out.mono ?_
  rintro e w4 ⟨P0X, es0X, rfl, he4, o4, g4⟩
  clear CX4
  have HE0X := Lib.hid he4
  clear he4
  have SZ4 : Hid (w3.heap.size ≤ w4.heap.size) := Lib.hid g4.size
  have B_4 := Lib.hid (B_3.out.next g4)
  clear B_3
  have N0_4 := Lib.hid (N0_3.out.next g4)
  clear N0_3
  have X0_4 := Lib.hid (Sp.own o4 (Nat.le_refl _))
  clear g4 o4
  have CX5 := Lib.hid (CI.out w4 _ n0 (B_4.out.here) (Nat.le_refl _) hb0 HLS0.out (own_pl2 (X0_4.out.here) HE0X.out))
  go_wp2_with fail
  refine CX5.out.mono ?_
  rintro e w5 ⟨rfl, g5⟩
  clear CX5
  have SZ5 : Hid (w4.heap.size ≤ w5.heap.size) := Lib.hid g5.size
  have B_5 := Lib.hid (B_4.out.next g5)
  clear B_4
  have N0_5 := Lib.hid (N0_4.out.next g5)
  clear N0_4
  have X0_5 := Lib.hid (X0_4.out.next g5)
  clear X0_4
  clear g5
  have CX6 := Lib.hid (uToPl a0 n0 c0 xs0 w5 hb0 HLS0.out (N0_5.out.here))
  go_wp2_with fail
  refine CX6.out.mono ?_
  rintro e w6 ⟨P0Y, es0Y, rfl, he6, o6, g6⟩
  clear CX6
  have HE0Y := Lib.hid he6
  clear he6
  have SZ6 : Hid (w5.heap.size ≤ w6.heap.size) := Lib.hid g6.size
  have B_6 := Lib.hid (B_5.out.next g6)
  clear B_5
  have N0_6 := Lib.hid (N0_5.out.next g6)
  clear N0_5
  have X0_6 := Lib.hid (X0_5.out.next g6)
  clear X0_5
  have Y0_6 := Lib.hid (Sp.own o6 (Nat.le_refl _))
  clear g6 o6
  have CX7 := Lib.hid (uEqPl P0X P0Y n0 n0 n0 xs0 w6 hb0 HLS0.out (own_pl2 (X0_6.out.here) HE0X.out) (own_pl2 (Y0_6.out.here) HE0Y.out))
  go_wp2_with fail
  refine CX7.out.mono ?_
  rintro e w7 ⟨rfl, g7⟩
  clear CX7
  clear Y0_6
  clear X0_6
  have SZ7 : Hid (w6.heap.size ≤ w7.heap.size) := Lib.hid g7.size
  have B_7 := Lib.hid (B_6.out.next g7)
  clear B_6
  have N0_7 := Lib.hid (N0_6.out.next g7)
  clear N0_6
  clear g7
  go_wp2_with fail
  go_ret
  exact ⟨rfl, B_7.out.here⟩
end Go.Proofs.YtkbkgbhnfopgnaaDoor
