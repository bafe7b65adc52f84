/-
  The law of IsPlace: its call answers true.
-/
import Derived.Test.YtkbkgbhnfopgnaaDoorMq1
import Derived.Test.YtkbkgbhnfopgnaaDoorPlTo
import Derived.Test.YtkbkgbhnfopgnaaDoorPlI
import Derived.Test.YtkbkgbhnfopgnaaDoorPlS
import Derived.Deep.RegionHeld3
namespace Go.Proofs.YtkbkgbhnfopgnaaDoor
section
set_option linter.unusedVariables false
open Go.RowKit

/-- What is kept of two boxes with places through a region that draws its order. -/
def BxR (A0 : World) (b b' : Nat) (v0 v1 v2 v3 v4 u4 : Value) (W : World) : Prop :=
  W.cell? ⟨b, 0, none⟩ = some v0 ∧ W.cell? ⟨b, 1, none⟩ = some v1 ∧ W.cell? ⟨b, 2, none⟩ = some v2 ∧ W.cell? ⟨b, 3, none⟩ = some v3 ∧ W.cell? ⟨b, 4, none⟩ = some v4 ∧
  W.cell? ⟨b', 0, none⟩ = some v0 ∧ W.cell? ⟨b', 1, none⟩ = some v1 ∧ W.cell? ⟨b', 2, none⟩ = some v2 ∧ W.cell? ⟨b', 3, none⟩ = some v3 ∧ W.cell? ⟨b', 4, none⟩ = some u4 ∧
  Below A0.heap.size A0 W ∧ b < A0.heap.size ∧ b' < A0.heap.size
theorem BxR.keep {A0 W W' : World} {b b' : Nat} {v0 v1 v2 v3 v4 u4 : Value} (h : BxR A0 b b' v0 v1 v2 v3 v4 u4 W) (hb : Below W.heap.size W W') : BxR A0 b b' v0 v1 v2 v3 v4 u4 W' := by
  obtain ⟨h0, h1, h2, h3, h4, k0, k1, k2, k3, k4, h5, h6, h7⟩ := h
  have hl : b < W.heap.size := Nat.lt_of_lt_of_le h6 h5.size
  have hl' : b' < W.heap.size := Nat.lt_of_lt_of_le h7 h5.size
  exact ⟨(hb.cell (p := ⟨b, 0, none⟩) hl).trans h0, (hb.cell (p := ⟨b, 1, none⟩) hl).trans h1, (hb.cell (p := ⟨b, 2, none⟩) hl).trans h2, (hb.cell (p := ⟨b, 3, none⟩) hl).trans h3, (hb.cell (p := ⟨b, 4, none⟩) hl).trans h4,
    (hb.cell (p := ⟨b', 0, none⟩) hl').trans k0, (hb.cell (p := ⟨b', 1, none⟩) hl').trans k1, (hb.cell (p := ⟨b', 2, none⟩) hl').trans k2, (hb.cell (p := ⟨b', 3, none⟩) hl').trans k3, (hb.cell (p := ⟨b', 4, none⟩) hl').trans k4, bstep9 h5 h5.size hb, h6, h7⟩
theorem BxR.get {A0 W : World} {b b' : Nat} {v0 v1 v2 v3 v4 u4 : Value} (h : BxR A0 b b' v0 v1 v2 v3 v4 u4 W) : Below A0.heap.size A0 W := h.2.2.2.2.2.2.2.2.2.2.1
theorem BxR.start {A0 : World} {b b' : Nat} {v0 v1 v2 v3 v4 u4 : Value} (h : Bx A0 b [v0, v1, v2, v3, v4]) (h' : Bx A0 b' [v0, v1, v2, v3, u4]) : BxR A0 b b' v0 v1 v2 v3 v4 u4 A0.drew := by
  obtain ⟨h0, h1, h2, h3, h4, _⟩ := h.five
  obtain ⟨k0, k1, k2, k3, k4, _⟩ := h'.five
  exact ⟨h0, h1, h2, h3, h4, k0, k1, k2, k3, k4, (Below.refl _ _).drew, h.1, h'.1⟩
set_option maxHeartbeats 4000000 in
set_option maxRecDepth 100000 in
theorem wIsPl (p : Pl) (A : Option Addr) (d : Nat) (w : World) (hd : p.ns.length ≤ d) (hS : SzL p) (hn : NmAt w w.heap.size A p.ns.length p.ns) (hsh : w.ShapedOpen Tryd.prog) (her : Er6 w) :
    Calls Tryd.prog 3 #[plv11 p A d] w fun e w' => e = .returned (.bool true) ∧ Below w.heap.size w w' := by
  obtain ⟨W0, hW0⟩ : ∃ W0 : World, W0 = w.alloc (.cells #[.string p.c, .int .i64 p.k, .int .i64 p.f, .int .i64 p.u, .slice A p.ns.length d] 26) := ⟨_, rfl⟩
  have hB0 : Below w.heap.size w W0 := by rw [hW0]; exact below_alloc11 _ _
  have HX : Hid (Bx W0 w.heap.size [.string p.c, .int .i64 p.k, .int .i64 p.f, .int .i64 p.u, .slice A p.ns.length d]) := Lib.hid (by rw [hW0]; exact Bx.new w _ _)
  obtain ⟨x0, x1, x2, x3, x4, _⟩ := HX.out.five
  have S0 := Lib.hid (uSzPl1 p A d 1048576 W0 (by omega) (by omega) hS (hn.grow hB0))
  have CT0 := Lib.hid (fun (hb : p.ns.length ≤ 1048576) W (hW : Below w.heap.size w W) => uToPl1 p A d W hb (hn.grow hW))
  have HSH : Hid (∀ W, Below w.heap.size w W → W.ShapedOpen Tryd.prog) := Lib.hid (fun W hW => shaped_below hsh hW)
  have HER : Hid (∀ W, Below w.heap.size w W → Er6 W) := Lib.hid (fun W hW => her.below hW)
  have HB0 := Lib.hid hB0
  have HW0 := Lib.hid hW0
  clear hsh her hn hS hB0 hW0
  go_enter Tryd.func3, Tryd.ntmps3
  go_wp2_with fail
  rw [← HW0.out]
  refine S0.out.mono ?_
  rintro e w1 ⟨r0, hr0, rfl, g1⟩
  have HB1 := Lib.hid (bstep9 HB0.out HB0.out.size g1)
  by_cases hrn : r0 < 0
  · have hr1 : r0 ≤ 1048576 := by omega
    clear hr0 x0 x1 x2 x3 x4
    go_wp2_with fail
    go_ret
    exact ⟨rfl, HB1.out⟩
  have ht : r0 + ((totP p : Nat) : Int) = 1048576 := by rcases hr0 with h | h; omega; exact h.2
  have hsz := sz_of_tot (p := p) (m := 1048576) (by omega)
  have hrz : 0 ≤ r0 := by omega
  have hrs : r0 ≤ 1048576 := by omega
  have CT := Lib.hid (CT0.out hsz.2.1)
  have HSZ := Lib.hid hsz
  obtain ⟨v, hv⟩ : ∃ v, v = plB p := ⟨_, rfl⟩
  have CS : Hid (∀ W A1, Below w.heap.size w W → NmAt W W.heap.size A1 p.ns.length p.ns → Calls Tryd.prog 10 #[plv11 p A1 p.ns.length] W fun e w' => e = .returned (.bool v) ∧ Below W.heap.size W w') := Lib.hid (fun W A1 hW h => by rw [hv]; exact cIsPl_spec p A1 p.ns.length W (by have := hsz.1; unfold maxLen; omega) hsz.2.1 hsz.2.2 h)
  have CI : Hid (∀ W A1, Below w.heap.size w W → NmAt W W.heap.size A1 p.ns.length p.ns → Calls Tryd.prog 12 #[plv11 p A1 p.ns.length] W fun e w' => e = .returned (.bool v) ∧ Below W.heap.size W w') := Lib.hid (fun W A1 hW h => by rw [hv]; exact cIsPl_impl p A1 p.ns.length W (by have := hsz.1; unfold maxLen; omega) hsz.2.1 hsz.2.2 h (Nat.le_refl _) (HSH.out W hW) (HER.out W hW))
  have hvv : (v != v) = false := by simp
  have HX1 := Lib.hid (HX.out.next g1)
  clear ht hsz hv hr0 x0 x1 x2 x3 x4 g1 CT0 S0
  obtain ⟨x0, x1, x2, x3, x4, _⟩ := HX1.out.five
  go_wp2_with fail
  refine (CT.out w1 HB1.out).mono ?_
  rintro e w2 ⟨A1, rfl, o1, g2⟩
  have HB2 := Lib.hid (bstep9 HB1.out HB1.out.size g2)
  have HX2 := Lib.hid (HX1.out.next g2)
  have C2 := Lib.hid (CS.out w2 A1 HB2.out (own_nm o1))
  clear o1 g2 x0 x1 x2 x3 x4
  go_wp2_with fail
  refine C2.out.mono ?_
  rintro e w3 ⟨rfl, g3⟩
  have HB3 := Lib.hid (bstep9 HB2.out HB2.out.size g3)
  have HX3 := Lib.hid (HX2.out.next g3)
  clear g3
  obtain ⟨x0, x1, x2, x3, x4, _⟩ := HX3.out.five
  go_wp2_with fail
  refine (CT.out w3 HB3.out).mono ?_
  rintro e w4 ⟨A2, rfl, o2, g4⟩
  obtain ⟨V4, hV4⟩ : ∃ V4 : World, V4 = w4.alloc (.cells #[.string p.c, .int .i64 p.k, .int .i64 p.f, .int .i64 p.u, .slice A2 p.ns.length p.ns.length] 32) := ⟨_, rfl⟩
  have hb4 := bstep9 HB3.out HB3.out.size g4
  have hg4 : Below w4.heap.size w4 V4 := by rw [hV4]; exact below_alloc11 _ _
  have HB4 := Lib.hid (bstep9 hb4 hb4.size hg4)
  have HX4 := Lib.hid ((HX3.out.next g4).next hg4)
  have HY4 : Hid (Bx V4 w4.heap.size [.string p.c, .int .i64 p.k, .int .i64 p.f, .int .i64 p.u, .slice A2 p.ns.length p.ns.length]) := Lib.hid (by rw [hV4]; exact Bx.new w4 _ _)
  have HNM4 := Lib.hid ((own_nm o2).grow hg4)
  have C4 := Lib.hid (CI.out V4 A2 HB4.out HNM4.out)
  have HV4 := Lib.hid hV4
  clear o2 g4 hb4 hg4 hV4 x0 x1 x2 x3 x4
  go_wp2_with fail
  rw [← HV4.out]
  refine C4.out.mono ?_
  rintro e w5 ⟨rfl, g5⟩
  have HB5 := Lib.hid (bstep9 HB4.out HB4.out.size g5)
  have hstart := BxR.start (HX4.out.next g5) (HY4.out.next g5)
  have CE : Hid (∀ W A3, Below w5.heap.size w5 W → NmAt W W.heap.size A3 p.ns.length p.ns → Calls Tryd.prog 13 #[plv11 p A2 p.ns.length, plv11 p A3 p.ns.length] W fun e w' => e = .returned (.bool true) ∧ Below W.heap.size W w') := Lib.hid (fun W A3 hW h => uEqPl1 p A2 A3 _ _ W HSZ.out.2.1 ((HNM4.out.grow g5).grow hW) h)
  have CT5 : Hid (∀ W, Below w5.heap.size w5 W → Calls Tryd.prog 11 #[plv11 p A d] W (CopyPl1 p W)) := Lib.hid (fun W hW => CT.out W (bstep9 HB5.out HB5.out.size hW))
  clear g5 CT CS CI C2 C4
  go_wp2_with fail
  go_cut [26] (fun v wx => v = .bool false ∧ Below w5.heap.size w5 wx)
  case first =>
    go_region_held3 (fun W => W.cell? ⟨w.heap.size, 0, none⟩ = some (.string p.c) ∧ W.cell? ⟨w.heap.size, 1, none⟩ = some (.int .i64 p.k) ∧ W.cell? ⟨w.heap.size, 2, none⟩ = some (.int .i64 p.f) ∧ W.cell? ⟨w.heap.size, 3, none⟩ = some (.int .i64 p.u) ∧ W.cell? ⟨w.heap.size, 4, none⟩ = some (.slice A p.ns.length d) ∧
        W.cell? ⟨w4.heap.size, 0, none⟩ = some (.string p.c) ∧ W.cell? ⟨w4.heap.size, 1, none⟩ = some (.int .i64 p.k) ∧ W.cell? ⟨w4.heap.size, 2, none⟩ = some (.int .i64 p.f) ∧ W.cell? ⟨w4.heap.size, 3, none⟩ = some (.int .i64 p.u) ∧ W.cell? ⟨w4.heap.size, 4, none⟩ = some (.slice A2 p.ns.length p.ns.length) ∧ Below w5.heap.size w5 W ∧ w.heap.size < w5.heap.size ∧ w4.heap.size < w5.heap.size)
      (first | (exact hstart) | (exact BxR.keep (A0 := w5) (by assumption) hba) | (exact BxR.keep (A0 := w5) (by assumption) hbe) | assumption)
      (first
        | (go_at_call 11; refine (CT5.out _ (BxR.get (A0 := w5) (show BxR w5 w.heap.size w4.heap.size (.string p.c) (.int .i64 p.k) (.int .i64 p.f) (.int .i64 p.u) (.slice A p.ns.length d) (.slice A2 p.ns.length p.ns.length) _ by assumption))).mono ?_; rintro e wa ⟨A3, rfl, o3, hba⟩)
        | (go_at_call 13; refine (CE.out _ A3 (BxR.get (A0 := w5) (show BxR w5 w.heap.size w4.heap.size (.string p.c) (.int .i64 p.k) (.int .i64 p.f) (.int .i64 p.u) (.slice A p.ns.length d) (.slice A2 p.ns.length p.ns.length) _ by assumption)) (own_nm o3)).mono ?_; rintro e we ⟨rfl, hbe⟩))
    all_goals (go_wp2_with fail; go_meet)
    all_goals exact ⟨rfl, BxR.get (A0 := w5) (show BxR w5 w.heap.size w4.heap.size (.string p.c) (.int .i64 p.k) (.int .i64 p.f) (.int .i64 p.u) (.slice A p.ns.length d) (.slice A2 p.ns.length p.ns.length) _ by assumption)⟩
  case rest =>
    obtain ⟨rfl, hb6⟩ := hcut
    go_wp2_with fail
    go_ret
    exact ⟨rfl, bstep9 HB5.out HB5.out.size hb6⟩
end
section
set_option linter.unusedVariables false
open Go.RowKit

theorem Sp.bx (w : World) (cs : Array Value) (t : TypeId) : Sp w.heap.size (w.alloc (.cells cs t)).heap.size (fun W => Bx W w.heap.size cs.toList) (w.alloc (.cells cs t)) :=
  ⟨Nat.le_refl _, fun W hW => (Bx.new w cs t).block (Nat.lt_of_lt_of_le (by simp) hW.size) (hW.block _ (Nat.le_refl _) (by simp))⟩
/-- How a row of one's own lies. -/
def Form11 (W : World) (A : Option Addr) (n c : Nat) : Prop := (A = none ∧ n = 0 ∧ c = 0) ∨ ∃ g, A = some ⟨g, 0, none⟩ ∧ n ≤ c ∧ g < W.heap.size
theorem form11 {w : World} {lo hi n c : Nat} {A : Option Addr} {es : List PE} (h : OwnP w lo hi A n c es) : Form11 w A n c := by
  rcases h.row.2 with ⟨e, h0⟩ | ⟨g, cap, cur, e, _, h3, h4, _⟩
  · injection e with e1 e2 e3
    exact .inl ⟨e1, h0, e3⟩
  · injection e with e1 e2 e3
    exact .inr ⟨g, e1, by omega, (Array.getElem?_eq_some_iff.1 h3).1⟩
theorem Form11.grow {w w' : World} {n c : Nat} {A : Option Addr} (h : Form11 w A n c) (hs : w.heap.size ≤ w'.heap.size) : Form11 w' A n c := by
  rcases h with h | ⟨g, h1, h2, h3⟩
  · exact .inl h
  · exact .inr ⟨g, h1, h2, by omega⟩
end
end Go.Proofs.YtkbkgbhnfopgnaaDoor
