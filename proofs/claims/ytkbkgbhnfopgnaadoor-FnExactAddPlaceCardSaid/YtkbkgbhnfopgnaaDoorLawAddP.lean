/-
  The law of AddPlace: its call answers true.
-/
import Derived.Test.YtkbkgbhnfopgnaaDoorMq8
import Derived.Test.YtkbkgbhnfopgnaaDoorPlAdd
import Derived.Test.YtkbkgbhnfopgnaaDoorPlAdS
import Derived.Test.YtkbkgbhnfopgnaaDoorMq12
namespace Go.Proofs.YtkbkgbhnfopgnaaDoor
set_option linter.unusedVariables false
open Go.RowKit

set_option maxHeartbeats 4000000 in
set_option maxRecDepth 100000 in
theorem wAddP (a0 : Option Addr) (n0 c0 : Nat) (xs0 : List Pl) (p1 : Pl) (a1 : Option Addr) (c1 : Nat) (w : World) (hm0 : n0 ≤ maxLen) (hS0 : ∀ p ∈ xs0, SzL p) (hn0 : PlAt w w.heap.size a0 n0 xs0) (hm1 : p1.ns.length ≤ c1) (hS1 : SzL p1) (hn1 : NmAt w w.heap.size a1 p1.ns.length p1.ns) (hsh : w.ShapedOpen Tryd.prog) (her : Er6 w) :
    Calls Tryd.prog 7 #[.slice a0 n0 c0, plv11 p1 a1 c1] w fun e w' => e = .returned (.bool true) ∧ Below w.heap.size w w' := by
  obtain ⟨wq, hwq⟩ : ∃ wq : World, wq = w.alloc (.cells #[.string p1.c, .int .i64 p1.k, .int .i64 p1.f, .int .i64 p1.u, .slice a1 p1.ns.length c1] 26) := ⟨_, rfl⟩
  have gq : Below w.heap.size w wq := by rw [hwq]; exact below_alloc11 _ _
  have SZ0 : Hid (w.heap.size ≤ wq.heap.size) := Lib.hid gq.size
  have PB_0 : Hid (Sp w.heap.size wq.heap.size (fun W => Bx W w.heap.size [.string p1.c, .int .i64 p1.k, .int .i64 p1.f, .int .i64 p1.u, .slice a1 p1.ns.length c1]) wq) := Lib.hid (by rw [hwq]; exact Sp.bx w _ _)
  have HWQ := Lib.hid hwq
  replace hn0 := hn0.grow gq
  replace hn1 := hn1.grow gq
  have HSL1 := Lib.hid hS1
  clear hS1
  have N1_0 := Lib.hid (Sp.nm hn1)
  clear hn1
  have S0 : Hid (Calls Tryd.prog 14 #[.slice a0 n0 c0, .int .i64 1048576] wq (Left (n0 + totPs xs0) 1048576 wq)) := Lib.hid (uSzPl a0 n0 c0 xs0 1048576 wq (by omega) (by omega) hm0 hS0 hn0)
  clear hS0
  have N0_0 := Lib.hid (Sp.pl hn0)
  clear hn0
  have B_0 := Lib.hid ((Sp.from_ w).next gq)
  clear gq hwq
  have HSH : Hid (∀ W, Below w.heap.size w W → W.ShapedOpen Tryd.prog) := Lib.hid (fun W hW => shaped_below hsh hW)
  clear hsh
  have HER : Hid (∀ W, Below w.heap.size w W → Er6 W) := Lib.hid (fun W hW => her.below hW)
  clear her
  unfold maxLen at hm0
  have HZi0 : Hid (Sz11 xs0 → (p1.c.size ≤ 1048576 ∧ p1.ns.length ≤ 1048576 ∧ ∀ e ∈ p1.ns, e.t.size ≤ 1048576 ∧ e.l.size ≤ 1048576) → Sz11 (adZ xs0 p1)) := Lib.hid (fun h0 h1 => adZ_sz h0 h1)
  have HW0 : Hid (∀ es, plsOf es = (adZ xs0 p1) → wideL es ≤ 1048576) := Lib.hid (adZ_wide xs0 p1)
  obtain ⟨N0r, hN0r⟩ : ∃ N, N = (adZ xs0 p1).length := ⟨_, rfl⟩
  have HL0 : Hid (N0r ≤ 1048576) := Lib.hid (by rw [hN0r]; exact adZ_len xs0 p1)
  have CS : Hid (∀ (W : World) (A0 : Option Addr) (c0 : Nat) (A1 : Option Addr) (c1 : Nat), Below w.heap.size w W → n0 ≤ c0 → p1.ns.length ≤ c1 → n0 ≤ 1048576 → Sz11 xs0 → (p1.c.size ≤ 1048576 ∧ p1.ns.length ≤ 1048576 ∧ ∀ e ∈ p1.ns, e.t.size ≤ 1048576 ∧ e.l.size ≤ 1048576) → PlAt W W.heap.size A0 n0 xs0 → Form11 W A0 n0 c0 → NmAt W W.heap.size A1 p1.ns.length p1.ns → Calls Tryd.prog 27 #[.slice A0 n0 c0, plv11 p1 A1 c1] W (OutPl (adZ xs0 p1) (adC xs0 p1) W)) := Lib.hid (fun W A0 c0 A1 c1 hW hcap0 hcap1 hb0 hl0 hl1 N0 hF N1 => cAdd_spec A0 A1 n0 c0 c1 xs0 p1 W hb0 hl0 hl1 N0 hF N1 hcap1)
  have CI : Hid (∀ (W : World) (A0 : Option Addr) (c0 : Nat) (A1 : Option Addr) (c1 : Nat), Below w.heap.size w W → n0 ≤ c0 → p1.ns.length ≤ c1 → n0 ≤ 1048576 → Sz11 xs0 → (p1.c.size ≤ 1048576 ∧ p1.ns.length ≤ 1048576 ∧ ∀ e ∈ p1.ns, e.t.size ≤ 1048576 ∧ e.l.size ≤ 1048576) → PlAt W W.heap.size A0 n0 xs0 → Form11 W A0 n0 c0 → NmAt W W.heap.size A1 p1.ns.length p1.ns → Calls Tryd.prog 28 #[.slice A0 n0 c0, plv11 p1 A1 c1] W (OutPl (adZ xs0 p1) (adC xs0 p1) W)) := Lib.hid (fun W A0 c0 A1 c1 hW hcap0 hcap1 hb0 hl0 hl1 N0 hF N1 => cAdd_impl A0 A1 n0 c0 c1 xs0 p1 W hb0 hl0 hl1 N0 N1 hcap1 (HSH.out W hW) (HER.out W hW))
  obtain ⟨v0, hv0⟩ : ∃ v, v = adZ xs0 p1 := ⟨_, rfl⟩
  rw [← hv0] at CS CI hN0r HZi0 HW0
  have HN0 := Lib.hid hN0r
  clear hN0r
  clear hv0
  obtain ⟨v1, hv1⟩ : ∃ v, v = adC xs0 p1 := ⟨_, rfl⟩
  rw [← hv1] at CS CI
  clear hv1
  have hd1 : (v1 != v1) = false := by simp
  go_enter Tryd.func7, Tryd.ntmps7
  go_wp2_with fail
  rw [← HWQ.out]
  refine S0.out.mono ?_
  rintro e w1 ⟨r0, hr0, rfl, g1⟩
  have gb1 := bstep9 (B_0.out.here) (B_0.out.here).size g1
  by_cases hrn0 : r0 < 0
  · have hr1 : r0 ≤ 1048576 := by omega
    clear hr0
    go_wp2_with fail
    go_ret
    exact ⟨rfl, gb1⟩
  clear gb1
  have ht0 : r0 + ((n0 + totPs xs0 : Nat) : Int) = 1048576 := by rcases hr0 with h | h; omega; exact h.2
  have hb0 : n0 ≤ 1048576 := by omega
  have hl0 : Sz11 xs0 := sz_of_tots (by omega)
  have HTT0 : Hid (n0 + totPs xs0 ≤ 1048576) := Lib.hid (by omega)
  have hrs0 : r0 ≤ 1048576 := by omega
  have hrz0 : 0 ≤ r0 := by omega
  have HLS0 := Lib.hid hl0
  clear hr0 hl0 ht0
  have SZ1 : Hid (wq.heap.size ≤ w1.heap.size) := Lib.hid g1.size
  have B_1 := Lib.hid (B_0.out.next g1)
  clear B_0
  have PB_1 := Lib.hid (PB_0.out.next g1)
  clear PB_0
  have N0_1 := Lib.hid (N0_0.out.next g1)
  clear N0_0
  have N1_1 := Lib.hid (N1_0.out.next g1)
  clear N1_0
  clear g1 S0
  obtain ⟨b0, b1, b2, b3, b4, _⟩ := (PB_1.out.here).five
  have S1 := Lib.hid (uSzPl1 p1 a1 c1 r0 w1 hrz0 hrs0 HSL1.out (N1_1.out.here))
  go_wp2_with fail
  refine S1.out.mono ?_
  rintro e w2 ⟨r1, hr1, rfl, g2⟩
  clear b0 b1 b2 b3 b4
  have SZ2 : Hid (w1.heap.size ≤ w2.heap.size) := Lib.hid g2.size
  have B_2 := Lib.hid (B_1.out.next g2)
  clear B_1
  have PB_2 := Lib.hid (PB_1.out.next g2)
  clear PB_1
  have N0_2 := Lib.hid (N0_1.out.next g2)
  clear N0_1
  have N1_2 := Lib.hid (N1_1.out.next g2)
  clear N1_1
  by_cases hrn1 : r1 < 0
  · have hr1 : r1 ≤ 1048576 := by omega
    clear hr1
    go_wp2_with fail
    go_ret
    exact ⟨rfl, B_2.out.here⟩
  have ht1 : r1 + ((totP p1 : Nat) : Int) = r0 := by rcases hr1 with h | h; omega; exact h.2
  have hl1 := sz_of_tot (p := p1) (m := 1048576) (by omega)
  have hb1 := hl1.2.1
  have HLS1 := Lib.hid hl1
  clear hr1 ht1 hl1 g2 S1 HSL1
  have HZ0 := Lib.hid (HZi0.out HLS0.out HLS1.out)
  have hstart := BxQ.start (PB_2.out.here)
  have CTS := Lib.hid (fun W (hW : Below w2.heap.size w2 W) => uToPl a0 n0 c0 xs0 W hb0 HLS0.out ((N0_2.out.here).grow hW))
  have CTQ := Lib.hid (fun W (hW : Below w2.heap.size w2 W) => uToPl1 p1 a1 c1 W hb1 ((N1_2.out.here).grow hW))
  have CAL := Lib.hid (fun W A0 A1 (hW : Below w2.heap.size w2 W) h1 hF h2 => CS.out W A0 n0 A1 p1.ns.length (bstep9 (B_2.out.here) (B_2.out.here).size hW) (Nat.le_refl _) (Nat.le_refl _) hb0 HLS0.out HLS1.out h1 hF h2)
  go_wp2_with fail
  go_cut [6, 7] (fun v z wx => z = .int .i64 v1 ∧ (∃ A es c, v = .slice A N0r c ∧ plsOf es = v0 ∧ OwnP wx w2.heap.size wx.heap.size A N0r c es) ∧ Below w2.heap.size w2 wx)
  case first =>
    go_region_held3 (fun W => W.cell? ⟨w.heap.size, 0, none⟩ = some (.string p1.c) ∧ W.cell? ⟨w.heap.size, 1, none⟩ = some (.int .i64 p1.k) ∧ W.cell? ⟨w.heap.size, 2, none⟩ = some (.int .i64 p1.f) ∧ W.cell? ⟨w.heap.size, 3, none⟩ = some (.int .i64 p1.u) ∧ W.cell? ⟨w.heap.size, 4, none⟩ = some (.slice a1 p1.ns.length c1) ∧ Below w2.heap.size w2 W ∧ w.heap.size < w2.heap.size)
      (first | (exact hstart) | (exact BxQ.keep (A0 := w2) (by assumption) hba) | (exact BxQ.keep (A0 := w2) (by assumption) hbb) | (exact BxQ.keep (A0 := w2) (by assumption) hbc) | assumption)
      (first
        | (go_at_call 16; refine (CTS.out _ (BxQ.get (A0 := w2) (show BxQ w2 w.heap.size (.string p1.c) (.int .i64 p1.k) (.int .i64 p1.f) (.int .i64 p1.u) (.slice a1 p1.ns.length c1) _ by assumption))).mono ?_; rintro e wa ⟨P0, es0, rfl, he0, o0, hba⟩; have NL := own_pl2 o0 he0; have FL := form11 o0; (try have NQ := NQ.grow hba))
        | (go_at_call 11; refine (CTQ.out _ (BxQ.get (A0 := w2) (show BxQ w2 w.heap.size (.string p1.c) (.int .i64 p1.k) (.int .i64 p1.f) (.int .i64 p1.u) (.slice a1 p1.ns.length c1) _ by assumption))).mono ?_; rintro e wb ⟨P1, rfl, o1, hbb⟩; have NQ := own_nm o1; (try have NL := NL.grow hbb); (try have FL := Form11.grow FL hbb.size))
        | (go_at_call 27; have hsz := (BxQ.get (A0 := w2) (show BxQ w2 w.heap.size (.string p1.c) (.int .i64 p1.k) (.int .i64 p1.f) (.int .i64 p1.u) (.slice a1 p1.ns.length c1) _ by assumption)).size; refine (CAL.out _ _ _ (BxQ.get (A0 := w2) (show BxQ w2 w.heap.size (.string p1.c) (.int .i64 p1.k) (.int .i64 p1.f) (.int .i64 p1.u) (.slice a1 p1.ns.length c1) _ by assumption)) NL FL NQ).mono ?_; rintro e wc ⟨AR, mR, dR, esR, rfl, heR, oR, hbc⟩; have oD := oR.down hsz))
    all_goals (go_wp2_with fail; go_meet)
    all_goals (obtain rfl : N0r = mR := by rw [HN0.out]; have h1 := oR.len; have h2 := congrArg List.length heR; rw [plsOf_len] at h2; omega)
    all_goals exact ⟨rfl, ⟨AR, esR, dR, rfl, heR, oD⟩, (BxQ.get (A0 := w2) (show BxQ w2 w.heap.size (.string p1.c) (.int .i64 p1.k) (.int .i64 p1.f) (.int .i64 p1.u) (.slice a1 p1.ns.length c1) _ by assumption))⟩
  obtain ⟨rfl, ⟨A0R, es0R, d0R, rfl, he3, o3⟩, g3⟩ := hcut
  obtain ⟨w3, rfl⟩ : ∃ w3 : World, w3 = wc := ⟨_, rfl⟩
  clear hstart CTS CTQ CAL
  have HER0 := Lib.hid he3
  clear he3
  have SZ3 : Hid (w2.heap.size ≤ w3.heap.size) := Lib.hid g3.size
  have B_3 := Lib.hid (B_2.out.next g3)
  clear B_2
  have PB_3 := Lib.hid (PB_2.out.next g3)
  clear PB_2
  have N0_3 := Lib.hid (N0_2.out.next g3)
  clear N0_2
  have N1_3 := Lib.hid (N1_2.out.next g3)
  clear N1_2
  have R0_3 := Lib.hid (Sp.own o3 (Nat.le_refl _))
  clear g3 o3
  have CX4 := Lib.hid (uToPl a0 n0 c0 xs0 w3 hb0 HLS0.out (N0_3.out.here))
  go_wp2_with fail
  refine CX4.out.mono ?_
  rintro e w4 ⟨P0X, es0X, rfl, he4, o4, g4⟩
  clear CX4
  have HE0X := Lib.hid he4
  clear he4
  have SZ4 : Hid (w3.heap.size ≤ w4.heap.size) := Lib.hid g4.size
  have B_4 := Lib.hid (B_3.out.next g4)
  clear B_3
  have PB_4 := Lib.hid (PB_3.out.next g4)
  clear PB_3
  have N0_4 := Lib.hid (N0_3.out.next g4)
  clear N0_3
  have N1_4 := Lib.hid (N1_3.out.next g4)
  clear N1_3
  have R0_4 := Lib.hid (R0_3.out.next g4)
  clear R0_3
  have X0_4 := Lib.hid (Sp.own o4 (Nat.le_refl _))
  clear g4 o4
  obtain ⟨b0, b1, b2, b3, b4, _⟩ := (PB_4.out.here).five
  have CX5 := Lib.hid (uToPl1 p1 a1 c1 w4 hb1 (N1_4.out.here))
  go_wp2_with fail
  refine CX5.out.mono ?_
  rintro e w5 ⟨QX, rfl, o5, g5⟩
  clear CX5
  clear b0 b1 b2 b3 b4
  have SZ5 : Hid (w4.heap.size ≤ w5.heap.size) := Lib.hid g5.size
  have B_5 := Lib.hid (B_4.out.next g5)
  clear B_4
  have PB_5 := Lib.hid (PB_4.out.next g5)
  clear PB_4
  have N0_5 := Lib.hid (N0_4.out.next g5)
  clear N0_4
  have N1_5 := Lib.hid (N1_4.out.next g5)
  clear N1_4
  have R0_5 := Lib.hid (R0_4.out.next g5)
  clear R0_4
  have X0_5 := Lib.hid (X0_4.out.next g5)
  clear X0_4
  have Xq_5 := Lib.hid (Sp.row o5)
  have LTXq : Hid (∀ k, (Value.slice QX p1.ns.length p1.ns.length).ownBlock = some k → w4.heap.size ≤ k ∧ k < w5.heap.size) := Lib.hid (own_range (Xq_5.out.here))
  clear o5 g5
  obtain ⟨w6, hw6⟩ : ∃ w6 : World, w6 = w5.alloc (.cells #[.string p1.c, .int .i64 p1.k, .int .i64 p1.f, .int .i64 p1.u, .slice QX p1.ns.length p1.ns.length] 32) := ⟨_, rfl⟩
  have g6 : Below w5.heap.size w5 w6 := by rw [hw6]; exact below_alloc11 _ _
  have SZ6 : Hid (w5.heap.size ≤ w6.heap.size) := Lib.hid g6.size
  have B_6 := Lib.hid (B_5.out.next g6)
  clear B_5
  have PB_6 := Lib.hid (PB_5.out.next g6)
  clear PB_5
  have N0_6 := Lib.hid (N0_5.out.next g6)
  clear N0_5
  have N1_6 := Lib.hid (N1_5.out.next g6)
  clear N1_5
  have R0_6 := Lib.hid (R0_5.out.next g6)
  clear R0_5
  have X0_6 := Lib.hid (X0_5.out.next g6)
  clear X0_5
  have Xq_6 := Lib.hid (Xq_5.out.next g6)
  clear Xq_5
  have XB_6 : Hid (Sp w5.heap.size w6.heap.size (fun W => Bx W w5.heap.size [.string p1.c, .int .i64 p1.k, .int .i64 p1.f, .int .i64 p1.u, .slice QX p1.ns.length p1.ns.length]) w6) := Lib.hid (by rw [hw6]; exact Sp.bx w5 _ _)
  have HWX := Lib.hid hw6
  clear hw6 g6
  obtain ⟨b0, b1, b2, b3, b4, _⟩ := (XB_6.out.here).five
  have hF := form11 (X0_6.out.here)
  have CX7 := Lib.hid (CI.out w6 _ n0 _ p1.ns.length (B_6.out.here) (Nat.le_refl _) (Nat.le_refl _) hb0 HLS0.out HLS1.out (own_pl2 (X0_6.out.here) HE0X.out) hF (own_nm (Xq_6.out.here)))
  clear hF
  go_wp2_with fail
  rw [← HWX.out]
  refine CX7.out.mono ?_
  rintro e w7 ⟨A0G, m0G, d0G, es0G, rfl, he7, o7, g7⟩
  clear CX7
  clear b0 b1 b2 b3 b4
  obtain rfl : N0r = m0G := by rw [HN0.out]; have h1 := o7.len; have h2 := congrArg List.length he7; rw [plsOf_len] at h2; omega
  have HEG0 := Lib.hid he7
  clear he7
  have SZ7 : Hid (w6.heap.size ≤ w7.heap.size) := Lib.hid g7.size
  have B_7 := Lib.hid (B_6.out.next g7)
  clear B_6
  have PB_7 := Lib.hid (PB_6.out.next g7)
  clear PB_6
  have N0_7 := Lib.hid (N0_6.out.next g7)
  clear N0_6
  have N1_7 := Lib.hid (N1_6.out.next g7)
  clear N1_6
  have R0_7 := Lib.hid (R0_6.out.next g7)
  clear R0_6
  have X0_7 := Lib.hid (X0_6.out.next g7)
  clear X0_6
  have Xq_7 := Lib.hid (Xq_6.out.next g7)
  clear Xq_6
  have XB_7 := Lib.hid (XB_6.out.next g7)
  clear XB_6
  have G0_7 := Lib.hid (Sp.own o7 (Nat.le_refl _))
  clear g7 o7
  have CX8 := Lib.hid (uEqPl A0G A0R N0r d0G d0R v0 w7 HL0.out HZ0.out (own_pl2 (G0_7.out.here) HEG0.out) (own_pl2 (R0_7.out.here) HER0.out))
  go_wp2_with fail
  refine CX8.out.mono ?_
  rintro e w8 ⟨rfl, g8⟩
  clear CX8
  have SZ8 : Hid (w7.heap.size ≤ w8.heap.size) := Lib.hid g8.size
  have B_8 := Lib.hid (B_7.out.next g8)
  clear B_7
  have PB_8 := Lib.hid (PB_7.out.next g8)
  clear PB_7
  have N0_8 := Lib.hid (N0_7.out.next g8)
  clear N0_7
  have N1_8 := Lib.hid (N1_7.out.next g8)
  clear N1_7
  have R0_8 := Lib.hid (R0_7.out.next g8)
  clear R0_7
  have X0_8 := Lib.hid (X0_7.out.next g8)
  clear X0_7
  have Xq_8 := Lib.hid (Xq_7.out.next g8)
  clear Xq_7
  have XB_8 := Lib.hid (XB_7.out.next g8)
  clear XB_7
  have G0_8 := Lib.hid (G0_7.out.next g8)
  clear G0_7
  clear g8
  have CX9 := Lib.hid (uToPl a0 n0 c0 xs0 w8 hb0 HLS0.out (N0_8.out.here))
  go_wp2_with fail
  refine CX9.out.mono ?_
  rintro e w9 ⟨P0Y, es0Y, rfl, he9, o9, g9⟩
  clear CX9
  have HE0Y := Lib.hid he9
  clear he9
  have SZ9 : Hid (w8.heap.size ≤ w9.heap.size) := Lib.hid g9.size
  have B_9 := Lib.hid (B_8.out.next g9)
  clear B_8
  have PB_9 := Lib.hid (PB_8.out.next g9)
  clear PB_8
  have N0_9 := Lib.hid (N0_8.out.next g9)
  clear N0_8
  have N1_9 := Lib.hid (N1_8.out.next g9)
  clear N1_8
  have R0_9 := Lib.hid (R0_8.out.next g9)
  clear R0_8
  have X0_9 := Lib.hid (X0_8.out.next g9)
  clear X0_8
  have Xq_9 := Lib.hid (Xq_8.out.next g9)
  clear Xq_8
  have XB_9 := Lib.hid (XB_8.out.next g9)
  clear XB_8
  have G0_9 := Lib.hid (G0_8.out.next g9)
  clear G0_8
  have Y0_9 := Lib.hid (Sp.own o9 (Nat.le_refl _))
  clear g9 o9
  have CX10 := Lib.hid (uEqPl P0X P0Y n0 n0 n0 xs0 w9 hb0 HLS0.out (own_pl2 (X0_9.out.here) HE0X.out) (own_pl2 (Y0_9.out.here) HE0Y.out))
  go_wp2_with fail
  refine CX10.out.mono ?_
  rintro e w10 ⟨rfl, g10⟩
  clear CX10
  clear Y0_9
  have SZ10 : Hid (w9.heap.size ≤ w10.heap.size) := Lib.hid g10.size
  have B_10 := Lib.hid (B_9.out.next g10)
  clear B_9
  have PB_10 := Lib.hid (PB_9.out.next g10)
  clear PB_9
  have N0_10 := Lib.hid (N0_9.out.next g10)
  clear N0_9
  have N1_10 := Lib.hid (N1_9.out.next g10)
  clear N1_9
  have R0_10 := Lib.hid (R0_9.out.next g10)
  clear R0_9
  have X0_10 := Lib.hid (X0_9.out.next g10)
  clear X0_9
  have Xq_10 := Lib.hid (Xq_9.out.next g10)
  clear Xq_9
  have XB_10 := Lib.hid (XB_9.out.next g10)
  clear XB_9
  have G0_10 := Lib.hid (G0_9.out.next g10)
  clear G0_9
  clear g10
  have hstart := BxR.start (PB_10.out.here) (XB_10.out.here)
  have CTQ := Lib.hid (fun W (hW : Below w10.heap.size w10 W) => uToPl1 p1 a1 c1 W hb1 ((N1_10.out.here).grow hW))
  have CEQ := Lib.hid (fun W A3 (hW : Below w10.heap.size w10 W) h => uEqPl1 p1 QX A3 p1.ns.length p1.ns.length W hb1 ((own_nm (Xq_10.out.here)).grow hW) h)
  go_wp2_with fail
  go_cut [63] (fun v wx => v = .bool false ∧ Below w10.heap.size w10 wx)
  case first =>
    go_region_held3 (fun W => W.cell? ⟨w.heap.size, 0, none⟩ = some (.string p1.c) ∧ W.cell? ⟨w.heap.size, 1, none⟩ = some (.int .i64 p1.k) ∧ W.cell? ⟨w.heap.size, 2, none⟩ = some (.int .i64 p1.f) ∧ W.cell? ⟨w.heap.size, 3, none⟩ = some (.int .i64 p1.u) ∧ W.cell? ⟨w.heap.size, 4, none⟩ = some (.slice a1 p1.ns.length c1) ∧ W.cell? ⟨w5.heap.size, 0, none⟩ = some (.string p1.c) ∧ W.cell? ⟨w5.heap.size, 1, none⟩ = some (.int .i64 p1.k) ∧ W.cell? ⟨w5.heap.size, 2, none⟩ = some (.int .i64 p1.f) ∧ W.cell? ⟨w5.heap.size, 3, none⟩ = some (.int .i64 p1.u) ∧ W.cell? ⟨w5.heap.size, 4, none⟩ = some (.slice QX p1.ns.length p1.ns.length) ∧ Below w10.heap.size w10 W ∧ w.heap.size < w10.heap.size ∧ w5.heap.size < w10.heap.size)
      (first | (exact hstart) | (exact BxR.keep (A0 := w10) (by assumption) hba) | (exact BxR.keep (A0 := w10) (by assumption) hbe) | assumption)
      (first
        | (go_at_call 11; refine (CTQ.out _ (BxR.get (A0 := w10) (show BxR w10 w.heap.size w5.heap.size (.string p1.c) (.int .i64 p1.k) (.int .i64 p1.f) (.int .i64 p1.u) (.slice a1 p1.ns.length c1) (.slice QX p1.ns.length p1.ns.length) _ by assumption))).mono ?_; rintro e wa ⟨A3, rfl, o3, hba⟩)
        | (go_at_call 13; refine (CEQ.out _ A3 (BxR.get (A0 := w10) (show BxR w10 w.heap.size w5.heap.size (.string p1.c) (.int .i64 p1.k) (.int .i64 p1.f) (.int .i64 p1.u) (.slice a1 p1.ns.length c1) (.slice QX p1.ns.length p1.ns.length) _ by assumption)) (own_nm o3)).mono ?_; rintro e we ⟨rfl, hbe⟩))
    all_goals (go_wp2_with fail; go_meet)
    all_goals exact ⟨rfl, (BxR.get (A0 := w10) (show BxR w10 w.heap.size w5.heap.size (.string p1.c) (.int .i64 p1.k) (.int .i64 p1.f) (.int .i64 p1.u) (.slice a1 p1.ns.length c1) (.slice QX p1.ns.length p1.ns.length) _ by assumption))⟩
  obtain ⟨rfl, g11⟩ := hcut
  obtain ⟨w11, rfl⟩ : ∃ w11 : World, w11 = wc := ⟨_, rfl⟩
  clear hstart CTQ CEQ
  have SZ11 : Hid (w10.heap.size ≤ w11.heap.size) := Lib.hid g11.size
  have B_11 := Lib.hid (B_10.out.next g11)
  clear B_10
  have PB_11 := Lib.hid (PB_10.out.next g11)
  clear PB_10
  have N0_11 := Lib.hid (N0_10.out.next g11)
  clear N0_10
  have N1_11 := Lib.hid (N1_10.out.next g11)
  clear N1_10
  have R0_11 := Lib.hid (R0_10.out.next g11)
  clear R0_10
  have X0_11 := Lib.hid (X0_10.out.next g11)
  clear X0_10
  have Xq_11 := Lib.hid (Xq_10.out.next g11)
  clear Xq_10
  have XB_11 := Lib.hid (XB_10.out.next g11)
  clear XB_10
  have G0_11 := Lib.hid (G0_10.out.next g11)
  clear G0_10
  clear g11
  have hw0 : wideL es0X ≤ 5 * 1048576 := by have h1 := wide_tot es0X; rw [HE0X.out] at h1; have h2 := HTT0.out; have h3 := congrArg List.length HE0X.out; rw [plsOf_len] at h3; have h4 := (X0_11.out.here).len; omega
  have CX12 := Lib.hid (show Calls Tryd.prog 24 #[.slice P0X n0 n0, .int .i64 1] _ _ from uMarkPl _ _ P0X n0 n0 (1) es0X w11 (by omega) (by omega) hb0 (fun e he => (HLS0.out e.p (by rw [← HE0X.out]; exact List.mem_map_of_mem he)).2.1) (X0_11.out.here))
  go_wp2_with fail
  refine CX12.out.mono ?_
  rintro e w12 ⟨rfl, o12m, g12⟩
  clear CX12
  clear X0_11
  have SZ12 : Hid (w11.heap.size ≤ w12.heap.size) := Lib.hid g12.size
  have B_12 := Lib.hid (B_11.out.markI g12 (by have s0 := SZ0.out; have s1 := SZ1.out; have s2 := SZ2.out; have s3 := SZ3.out; have s4 := SZ4.out; have s5 := SZ5.out; have s6 := SZ6.out; have s7 := SZ7.out; have s8 := SZ8.out; have s9 := SZ9.out; have s10 := SZ10.out; have s11 := SZ11.out; have s12 := SZ12.out; have h1 := True.intro; omega))
  clear B_11
  have PB_12 := Lib.hid (PB_11.out.markI g12 (by have s0 := SZ0.out; have s1 := SZ1.out; have s2 := SZ2.out; have s3 := SZ3.out; have s4 := SZ4.out; have s5 := SZ5.out; have s6 := SZ6.out; have s7 := SZ7.out; have s8 := SZ8.out; have s9 := SZ9.out; have s10 := SZ10.out; have s11 := SZ11.out; have s12 := SZ12.out; have h1 := True.intro; omega))
  clear PB_11
  have N0_12 := Lib.hid (N0_11.out.markI g12 (by have s0 := SZ0.out; have s1 := SZ1.out; have s2 := SZ2.out; have s3 := SZ3.out; have s4 := SZ4.out; have s5 := SZ5.out; have s6 := SZ6.out; have s7 := SZ7.out; have s8 := SZ8.out; have s9 := SZ9.out; have s10 := SZ10.out; have s11 := SZ11.out; have s12 := SZ12.out; have h1 := True.intro; omega))
  clear N0_11
  have N1_12 := Lib.hid (N1_11.out.markI g12 (by have s0 := SZ0.out; have s1 := SZ1.out; have s2 := SZ2.out; have s3 := SZ3.out; have s4 := SZ4.out; have s5 := SZ5.out; have s6 := SZ6.out; have s7 := SZ7.out; have s8 := SZ8.out; have s9 := SZ9.out; have s10 := SZ10.out; have s11 := SZ11.out; have s12 := SZ12.out; have h1 := True.intro; omega))
  clear N1_11
  have R0_12 := Lib.hid (R0_11.out.markI g12 (by have s0 := SZ0.out; have s1 := SZ1.out; have s2 := SZ2.out; have s3 := SZ3.out; have s4 := SZ4.out; have s5 := SZ5.out; have s6 := SZ6.out; have s7 := SZ7.out; have s8 := SZ8.out; have s9 := SZ9.out; have s10 := SZ10.out; have s11 := SZ11.out; have s12 := SZ12.out; have h1 := True.intro; omega))
  clear R0_11
  have Xq_12 := Lib.hid (Xq_11.out.markI g12 (by have s0 := SZ0.out; have s1 := SZ1.out; have s2 := SZ2.out; have s3 := SZ3.out; have s4 := SZ4.out; have s5 := SZ5.out; have s6 := SZ6.out; have s7 := SZ7.out; have s8 := SZ8.out; have s9 := SZ9.out; have s10 := SZ10.out; have s11 := SZ11.out; have s12 := SZ12.out; have h1 := True.intro; omega))
  clear Xq_11
  have XB_12 := Lib.hid (XB_11.out.markI g12 (by have s0 := SZ0.out; have s1 := SZ1.out; have s2 := SZ2.out; have s3 := SZ3.out; have s4 := SZ4.out; have s5 := SZ5.out; have s6 := SZ6.out; have s7 := SZ7.out; have s8 := SZ8.out; have s9 := SZ9.out; have s10 := SZ10.out; have s11 := SZ11.out; have s12 := SZ12.out; have h1 := True.intro; omega))
  clear XB_11
  have G0_12 := Lib.hid (G0_11.out.markI g12 (by have s0 := SZ0.out; have s1 := SZ1.out; have s2 := SZ2.out; have s3 := SZ3.out; have s4 := SZ4.out; have s5 := SZ5.out; have s6 := SZ6.out; have s7 := SZ7.out; have s8 := SZ8.out; have s9 := SZ9.out; have s10 := SZ10.out; have s11 := SZ11.out; have s12 := SZ12.out; have h1 := True.intro; omega))
  clear G0_11
  clear g12 o12m
  obtain ⟨b0, b1, b2, b3, b4, _⟩ := (XB_12.out.here).five
  have CX13 := Lib.hid (show Calls Tryd.prog 29 #[plv11 p1 QX p1.ns.length, .int .i64 ((1 + wideL es0X : Nat) : Int)] _ _ from uMarkPl1 _ p1 QX p1.ns.length (1 + wideL es0X) w12 (by omega) (by omega) hb1 (fun _ => Xq_12.out.here))
  go_wp2_with fail
  refine CX13.out.mono ?_
  rintro e w13 ⟨rfl, rr, hrr, gg⟩
  clear CX13
  clear b0 b1 b2 b3 b4
  have g13 : FrameI w4.heap.size (w5.heap.size) w12 w13 := FrameI.of_grown gg (fun k hk => LTXq.out k (hrr k hk).2)
  clear gg hrr
  clear Xq_12
  have SZ13 : Hid (w12.heap.size ≤ w13.heap.size) := Lib.hid g13.size
  have B_13 := Lib.hid (B_12.out.markI g13 (by have s0 := SZ0.out; have s1 := SZ1.out; have s2 := SZ2.out; have s3 := SZ3.out; have s4 := SZ4.out; have s5 := SZ5.out; have s6 := SZ6.out; have s7 := SZ7.out; have s8 := SZ8.out; have s9 := SZ9.out; have s10 := SZ10.out; have s11 := SZ11.out; have s12 := SZ12.out; have s13 := SZ13.out; omega))
  clear B_12
  have PB_13 := Lib.hid (PB_12.out.markI g13 (by have s0 := SZ0.out; have s1 := SZ1.out; have s2 := SZ2.out; have s3 := SZ3.out; have s4 := SZ4.out; have s5 := SZ5.out; have s6 := SZ6.out; have s7 := SZ7.out; have s8 := SZ8.out; have s9 := SZ9.out; have s10 := SZ10.out; have s11 := SZ11.out; have s12 := SZ12.out; have s13 := SZ13.out; omega))
  clear PB_12
  have N0_13 := Lib.hid (N0_12.out.markI g13 (by have s0 := SZ0.out; have s1 := SZ1.out; have s2 := SZ2.out; have s3 := SZ3.out; have s4 := SZ4.out; have s5 := SZ5.out; have s6 := SZ6.out; have s7 := SZ7.out; have s8 := SZ8.out; have s9 := SZ9.out; have s10 := SZ10.out; have s11 := SZ11.out; have s12 := SZ12.out; have s13 := SZ13.out; omega))
  clear N0_12
  have N1_13 := Lib.hid (N1_12.out.markI g13 (by have s0 := SZ0.out; have s1 := SZ1.out; have s2 := SZ2.out; have s3 := SZ3.out; have s4 := SZ4.out; have s5 := SZ5.out; have s6 := SZ6.out; have s7 := SZ7.out; have s8 := SZ8.out; have s9 := SZ9.out; have s10 := SZ10.out; have s11 := SZ11.out; have s12 := SZ12.out; have s13 := SZ13.out; omega))
  clear N1_12
  have R0_13 := Lib.hid (R0_12.out.markI g13 (by have s0 := SZ0.out; have s1 := SZ1.out; have s2 := SZ2.out; have s3 := SZ3.out; have s4 := SZ4.out; have s5 := SZ5.out; have s6 := SZ6.out; have s7 := SZ7.out; have s8 := SZ8.out; have s9 := SZ9.out; have s10 := SZ10.out; have s11 := SZ11.out; have s12 := SZ12.out; have s13 := SZ13.out; omega))
  clear R0_12
  have XB_13 := Lib.hid (XB_12.out.markI g13 (by have s0 := SZ0.out; have s1 := SZ1.out; have s2 := SZ2.out; have s3 := SZ3.out; have s4 := SZ4.out; have s5 := SZ5.out; have s6 := SZ6.out; have s7 := SZ7.out; have s8 := SZ8.out; have s9 := SZ9.out; have s10 := SZ10.out; have s11 := SZ11.out; have s12 := SZ12.out; have s13 := SZ13.out; omega))
  clear XB_12
  have G0_13 := Lib.hid (G0_12.out.markI g13 (by have s0 := SZ0.out; have s1 := SZ1.out; have s2 := SZ2.out; have s3 := SZ3.out; have s4 := SZ4.out; have s5 := SZ5.out; have s6 := SZ6.out; have s7 := SZ7.out; have s8 := SZ8.out; have s9 := SZ9.out; have s10 := SZ10.out; have s11 := SZ11.out; have s12 := SZ12.out; have s13 := SZ13.out; omega))
  clear G0_12
  clear g13
  have hkk : ¬ ((1 + wideL es0X + 5 * p1.ns.length : Nat) : Int) < 0 := by omega
  have CX14 := Lib.hid (uEqPl A0G A0R N0r d0G d0R v0 w13 HL0.out HZ0.out (own_pl2 (G0_13.out.here) HEG0.out) (own_pl2 (R0_13.out.here) HER0.out))
  go_wp2_with fail
  refine CX14.out.mono ?_
  rintro e w14 ⟨rfl, g14⟩
  clear CX14
  have SZ14 : Hid (w13.heap.size ≤ w14.heap.size) := Lib.hid g14.size
  have B_14 := Lib.hid (B_13.out.next g14)
  clear B_13
  have PB_14 := Lib.hid (PB_13.out.next g14)
  clear PB_13
  have N0_14 := Lib.hid (N0_13.out.next g14)
  clear N0_13
  have N1_14 := Lib.hid (N1_13.out.next g14)
  clear N1_13
  have R0_14 := Lib.hid (R0_13.out.next g14)
  clear R0_13
  have XB_14 := Lib.hid (XB_13.out.next g14)
  clear XB_13
  have G0_14 := Lib.hid (G0_13.out.next g14)
  clear G0_13
  clear g14
  clear hkk
  have hwr0 := HW0.out es0G HEG0.out
  have CX15 := Lib.hid (show Calls Tryd.prog 24 #[.slice A0G N0r d0G, .int .i64 1] _ _ from uMarkPl _ _ A0G N0r d0G (1) es0G w14 (by omega) (by omega) HL0.out (fun e he => (HZ0.out e.p (by rw [← HEG0.out]; exact List.mem_map_of_mem he)).2.1) (G0_14.out.here))
  go_wp2_with fail
  refine CX15.out.mono ?_
  rintro e w15 ⟨rfl, o15m, g15⟩
  clear CX15
  clear G0_14
  have SZ15 : Hid (w14.heap.size ≤ w15.heap.size) := Lib.hid g15.size
  have B_15 := Lib.hid (B_14.out.markI g15 (by have s0 := SZ0.out; have s1 := SZ1.out; have s2 := SZ2.out; have s3 := SZ3.out; have s4 := SZ4.out; have s5 := SZ5.out; have s6 := SZ6.out; have s7 := SZ7.out; have s8 := SZ8.out; have s9 := SZ9.out; have s10 := SZ10.out; have s11 := SZ11.out; have s12 := SZ12.out; have s13 := SZ13.out; have s14 := SZ14.out; have s15 := SZ15.out; have h1 := True.intro; omega))
  clear B_14
  have PB_15 := Lib.hid (PB_14.out.markI g15 (by have s0 := SZ0.out; have s1 := SZ1.out; have s2 := SZ2.out; have s3 := SZ3.out; have s4 := SZ4.out; have s5 := SZ5.out; have s6 := SZ6.out; have s7 := SZ7.out; have s8 := SZ8.out; have s9 := SZ9.out; have s10 := SZ10.out; have s11 := SZ11.out; have s12 := SZ12.out; have s13 := SZ13.out; have s14 := SZ14.out; have s15 := SZ15.out; have h1 := True.intro; omega))
  clear PB_14
  have N0_15 := Lib.hid (N0_14.out.markI g15 (by have s0 := SZ0.out; have s1 := SZ1.out; have s2 := SZ2.out; have s3 := SZ3.out; have s4 := SZ4.out; have s5 := SZ5.out; have s6 := SZ6.out; have s7 := SZ7.out; have s8 := SZ8.out; have s9 := SZ9.out; have s10 := SZ10.out; have s11 := SZ11.out; have s12 := SZ12.out; have s13 := SZ13.out; have s14 := SZ14.out; have s15 := SZ15.out; have h1 := True.intro; omega))
  clear N0_14
  have N1_15 := Lib.hid (N1_14.out.markI g15 (by have s0 := SZ0.out; have s1 := SZ1.out; have s2 := SZ2.out; have s3 := SZ3.out; have s4 := SZ4.out; have s5 := SZ5.out; have s6 := SZ6.out; have s7 := SZ7.out; have s8 := SZ8.out; have s9 := SZ9.out; have s10 := SZ10.out; have s11 := SZ11.out; have s12 := SZ12.out; have s13 := SZ13.out; have s14 := SZ14.out; have s15 := SZ15.out; have h1 := True.intro; omega))
  clear N1_14
  have R0_15 := Lib.hid (R0_14.out.markI g15 (by have s0 := SZ0.out; have s1 := SZ1.out; have s2 := SZ2.out; have s3 := SZ3.out; have s4 := SZ4.out; have s5 := SZ5.out; have s6 := SZ6.out; have s7 := SZ7.out; have s8 := SZ8.out; have s9 := SZ9.out; have s10 := SZ10.out; have s11 := SZ11.out; have s12 := SZ12.out; have s13 := SZ13.out; have s14 := SZ14.out; have s15 := SZ15.out; have h1 := True.intro; omega))
  clear R0_14
  have XB_15 := Lib.hid (XB_14.out.markI g15 (by have s0 := SZ0.out; have s1 := SZ1.out; have s2 := SZ2.out; have s3 := SZ3.out; have s4 := SZ4.out; have s5 := SZ5.out; have s6 := SZ6.out; have s7 := SZ7.out; have s8 := SZ8.out; have s9 := SZ9.out; have s10 := SZ10.out; have s11 := SZ11.out; have s12 := SZ12.out; have s13 := SZ13.out; have s14 := SZ14.out; have s15 := SZ15.out; have h1 := True.intro; omega))
  clear XB_14
  have M0_15 := Lib.hid (Sp.own o15m (by have s0 := SZ0.out; have s1 := SZ1.out; have s2 := SZ2.out; have s3 := SZ3.out; have s4 := SZ4.out; have s5 := SZ5.out; have s6 := SZ6.out; have s7 := SZ7.out; have s8 := SZ8.out; have s9 := SZ9.out; have s10 := SZ10.out; have s11 := SZ11.out; have s12 := SZ12.out; have s13 := SZ13.out; have s14 := SZ14.out; have s0 := SZ15.out; omega))
  clear g15 o15m
  have CX16 := Lib.hid (show Calls Tryd.prog 30 #[.slice A0G N0r d0G, .int .i64 1] _ _ from uHeldPl _ _ A0G N0r d0G (1) es0G w15 (by omega) (by omega) HL0.out (fun e he => (HZ0.out e.p (by rw [← HEG0.out]; exact List.mem_map_of_mem he)).2.1) (M0_15.out.here))
  go_wp2_with fail
  refine CX16.out.mono ?_
  rintro e w16 ⟨rfl, g16⟩
  clear CX16
  have SZ16 : Hid (w15.heap.size ≤ w16.heap.size) := Lib.hid g16.size
  have B_16 := Lib.hid (B_15.out.next g16)
  clear B_15
  have PB_16 := Lib.hid (PB_15.out.next g16)
  clear PB_15
  have N0_16 := Lib.hid (N0_15.out.next g16)
  clear N0_15
  have N1_16 := Lib.hid (N1_15.out.next g16)
  clear N1_15
  have R0_16 := Lib.hid (R0_15.out.next g16)
  clear R0_15
  have XB_16 := Lib.hid (XB_15.out.next g16)
  clear XB_15
  have M0_16 := Lib.hid (M0_15.out.next g16)
  clear M0_15
  clear g16
  have hq16 : ¬ ((1 + wideL es0G : Nat) : Int) < 0 := by omega
  have hqm16 : (((1 + wideL es0G : Nat) : Int) != ((1 + wideL es0G : Nat) : Int)) = false := by simp
  have hstart := BxQ.start (PB_16.out.here)
  have CTS := Lib.hid (fun W (hW : Below w16.heap.size w16 W) => uToPl a0 n0 c0 xs0 W hb0 HLS0.out ((N0_16.out.here).grow hW))
  have CTQ := Lib.hid (fun W (hW : Below w16.heap.size w16 W) => uToPl1 p1 a1 c1 W hb1 ((N1_16.out.here).grow hW))
  have CAL := Lib.hid (fun W A0 A1 (hW : Below w16.heap.size w16 W) h1 hF h2 => CI.out W A0 n0 A1 p1.ns.length (bstep9 (B_16.out.here) (B_16.out.here).size hW) (Nat.le_refl _) (Nat.le_refl _) hb0 HLS0.out HLS1.out h1 hF h2)
  go_wp2_with fail
  go_cut [15, 16] (fun v z wx => z = .int .i64 v1 ∧ (∃ A es c, v = .slice A N0r c ∧ plsOf es = v0 ∧ OwnP wx w16.heap.size wx.heap.size A N0r c es) ∧ Below w16.heap.size w16 wx)
  case first =>
    go_region_held3 (fun W => W.cell? ⟨w.heap.size, 0, none⟩ = some (.string p1.c) ∧ W.cell? ⟨w.heap.size, 1, none⟩ = some (.int .i64 p1.k) ∧ W.cell? ⟨w.heap.size, 2, none⟩ = some (.int .i64 p1.f) ∧ W.cell? ⟨w.heap.size, 3, none⟩ = some (.int .i64 p1.u) ∧ W.cell? ⟨w.heap.size, 4, none⟩ = some (.slice a1 p1.ns.length c1) ∧ Below w16.heap.size w16 W ∧ w.heap.size < w16.heap.size)
      (first | (exact hstart) | (exact BxQ.keep (A0 := w16) (by assumption) hba) | (exact BxQ.keep (A0 := w16) (by assumption) hbb) | (exact BxQ.keep (A0 := w16) (by assumption) hbc) | assumption)
      (first
        | (go_at_call 16; refine (CTS.out _ (BxQ.get (A0 := w16) (show BxQ w16 w.heap.size (.string p1.c) (.int .i64 p1.k) (.int .i64 p1.f) (.int .i64 p1.u) (.slice a1 p1.ns.length c1) _ by assumption))).mono ?_; rintro e wa ⟨P0, es0, rfl, he0, o0, hba⟩; have NL := own_pl2 o0 he0; have FL := form11 o0; (try have NQ := NQ.grow hba))
        | (go_at_call 11; refine (CTQ.out _ (BxQ.get (A0 := w16) (show BxQ w16 w.heap.size (.string p1.c) (.int .i64 p1.k) (.int .i64 p1.f) (.int .i64 p1.u) (.slice a1 p1.ns.length c1) _ by assumption))).mono ?_; rintro e wb ⟨P1, rfl, o1, hbb⟩; have NQ := own_nm o1; (try have NL := NL.grow hbb); (try have FL := Form11.grow FL hbb.size))
        | (go_at_call 28; have hsz := (BxQ.get (A0 := w16) (show BxQ w16 w.heap.size (.string p1.c) (.int .i64 p1.k) (.int .i64 p1.f) (.int .i64 p1.u) (.slice a1 p1.ns.length c1) _ by assumption)).size; refine (CAL.out _ _ _ (BxQ.get (A0 := w16) (show BxQ w16 w.heap.size (.string p1.c) (.int .i64 p1.k) (.int .i64 p1.f) (.int .i64 p1.u) (.slice a1 p1.ns.length c1) _ by assumption)) NL FL NQ).mono ?_; rintro e wc ⟨AR, mR, dR, esR, rfl, heR, oR, hbc⟩; have oD := oR.down hsz))
    all_goals (go_wp2_with fail; go_meet)
    all_goals (obtain rfl : N0r = mR := by rw [HN0.out]; have h1 := oR.len; have h2 := congrArg List.length heR; rw [plsOf_len] at h2; omega)
    all_goals exact ⟨rfl, ⟨AR, esR, dR, rfl, heR, oD⟩, (BxQ.get (A0 := w16) (show BxQ w16 w.heap.size (.string p1.c) (.int .i64 p1.k) (.int .i64 p1.f) (.int .i64 p1.u) (.slice a1 p1.ns.length c1) _ by assumption))⟩
  obtain ⟨rfl, ⟨A0E, es0E, d0E, rfl, he17, o17⟩, g17⟩ := hcut
  obtain ⟨w17, rfl⟩ : ∃ w17 : World, w17 = wc := ⟨_, rfl⟩
  clear hstart CTS CTQ CAL
  have HEE0 := Lib.hid he17
  clear he17
  have SZ17 : Hid (w16.heap.size ≤ w17.heap.size) := Lib.hid g17.size
  have B_17 := Lib.hid (B_16.out.next g17)
  clear B_16
  have PB_17 := Lib.hid (PB_16.out.next g17)
  clear PB_16
  have N0_17 := Lib.hid (N0_16.out.next g17)
  clear N0_16
  have N1_17 := Lib.hid (N1_16.out.next g17)
  clear N1_16
  have R0_17 := Lib.hid (R0_16.out.next g17)
  clear R0_16
  have XB_17 := Lib.hid (XB_16.out.next g17)
  clear XB_16
  have M0_17 := Lib.hid (M0_16.out.next g17)
  clear M0_16
  have E0_17 := Lib.hid (Sp.own o17 (Nat.le_refl _))
  clear g17 o17
  have CX18 := Lib.hid (uEqPl A0E A0R N0r d0E d0R v0 w17 HL0.out HZ0.out (own_pl2 (E0_17.out.here) HEE0.out) (own_pl2 (R0_17.out.here) HER0.out))
  go_wp2_with fail
  refine CX18.out.mono ?_
  rintro e w18 ⟨rfl, g18⟩
  clear CX18
  have SZ18 : Hid (w17.heap.size ≤ w18.heap.size) := Lib.hid g18.size
  have B_18 := Lib.hid (B_17.out.next g18)
  clear B_17
  have PB_18 := Lib.hid (PB_17.out.next g18)
  clear PB_17
  have N0_18 := Lib.hid (N0_17.out.next g18)
  clear N0_17
  have N1_18 := Lib.hid (N1_17.out.next g18)
  clear N1_17
  have R0_18 := Lib.hid (R0_17.out.next g18)
  clear R0_17
  have XB_18 := Lib.hid (XB_17.out.next g18)
  clear XB_17
  have M0_18 := Lib.hid (M0_17.out.next g18)
  clear M0_17
  have E0_18 := Lib.hid (E0_17.out.next g18)
  clear E0_17
  clear g18
  have CX19 := Lib.hid (show Calls Tryd.prog 30 #[.slice A0G N0r d0G, .int .i64 1] _ _ from uHeldPl _ _ A0G N0r d0G (1) es0G w18 (by omega) (by omega) HL0.out (fun e he => (HZ0.out e.p (by rw [← HEG0.out]; exact List.mem_map_of_mem he)).2.1) (M0_18.out.here))
  go_wp2_with fail
  refine CX19.out.mono ?_
  rintro e w19 ⟨rfl, g19⟩
  clear CX19
  have SZ19 : Hid (w18.heap.size ≤ w19.heap.size) := Lib.hid g19.size
  have B_19 := Lib.hid (B_18.out.next g19)
  clear B_18
  have PB_19 := Lib.hid (PB_18.out.next g19)
  clear PB_18
  have N0_19 := Lib.hid (N0_18.out.next g19)
  clear N0_18
  have N1_19 := Lib.hid (N1_18.out.next g19)
  clear N1_18
  have R0_19 := Lib.hid (R0_18.out.next g19)
  clear R0_18
  have XB_19 := Lib.hid (XB_18.out.next g19)
  clear XB_18
  have M0_19 := Lib.hid (M0_18.out.next g19)
  clear M0_18
  have E0_19 := Lib.hid (E0_18.out.next g19)
  clear E0_18
  clear g19
  have hq19 : ¬ ((1 + wideL es0G : Nat) : Int) < 0 := by omega
  have hqm19 : (((1 + wideL es0G : Nat) : Int) != ((1 + wideL es0G : Nat) : Int)) = false := by simp
  go_wp2_with fail
  go_ret
  exact ⟨rfl, B_19.out.here⟩
end Go.Proofs.YtkbkgbhnfopgnaaDoor
