/-
  The contract of spec.PlacesOfKind.
-/
import Derived.Test.YtglmibmjbignbaaGreatDoorMy23
import Derived.Test.YtglmibmjbignbaaGreatDoorMy20
import Derived.Test.YtglmibmjbignbaaGreatDoorMy25
namespace Go.Proofs.YtglmibmjbignbaaGreatDoor
section
set_option linter.unusedVariables false
open Go.RowKit

theorem below_drNS {B : Nat} {a w : World} (h : Below B a w) (n : Nat) : Below B a (w.drewN n) := ⟨h.os, h.tape, h.output, h.size, h.block⟩
set_option maxHeartbeats 4000000 in
set_option maxRecDepth 100000 in
theorem cKd_spec (A A1 : Option Addr) (n c n1 c1 : Nat) (ps : List Pl) (xs : List Int) (a y : Int) (w : World) (hb : n ≤ 1048576) (hb1 : n1 ≤ 1048576) (hz : Sz11 ps) (h : PlAt w w.heap.size A n ps) (h1 : NumAt w w.heap.size A1 n1 xs) :
    Calls Tryz.prog 34 #[.slice A n c, .slice A1 n1 c1, .int .i64 a, .int .i64 y] w (OutT11 (pkZ ps xs a y) (pkC ps xs a y) w) := by
  obtain ⟨i0, hi0, hz0, hz1, hz2⟩ := info_parts info_strW
  have CT : Hid (Calls Tryz.prog 99 #[.slice A1 n1 c1] w fun e w' => e = .returned (.bool (treeB xs)) ∧ Below w.heap.size w w') := Lib.hid ((cTree_spec A1 n1 c1 w.heap.size xs w (by unfold maxLen; omega) h1).mono fun e w' hh => ⟨hh.1, by obtain ⟨q, rfl⟩ := hh.2; exact below_drNS (Below.refl _ _) q⟩)
  have CK := Lib.hid (fun W (hW : Below w.heap.size w W) => cL11Year A n c ps y W hb hz (h.grow hW))
  have CA : Hid (∀ (W : World), Calls Tryz.prog 83 #[.int .i64 a, .int .i64 0, .int .i64 ((n1 : Int) - 1)] W fun e w' => e = .returned (.bool (inT10 xs a)) ∧ W = w') := Lib.hid (fun W => by have := cIn_any a 0 ((n1 : Int) - 1) W; rwa [inB_dec h1.1] at this)
  have CE := Lib.hid (fun p A d W => cL11Ex p A d y W)
  have H := Lib.hid h
  have HN := Lib.hid h.1
  have H1 := Lib.hid h1
  have HN1 := Lib.hid h1.1
  rcases pk_cases ps xs a y with ⟨e1, e2, e3⟩ | ⟨e1, e2, e3, e4⟩ | ⟨e1, e2, e3, e4, e5, e6⟩ | ⟨e1, e2, e3, e4, e5, e6, e7⟩
  · rw [e2, e3]
    rw [e1] at CT
    clear e1 e2 e3 CK CA CE h h1 hz
    go_enter Tryz.func34, Tryz.ntmps34
    go_wp2_with fail
    refine CT.out.mono ?_
    rintro e w1 ⟨rfl, g2⟩
    go_wp2_with fail
    go_ret2
    exact ⟨none, 0, 0, rfl, World.ownsRow_nil _ _ _ _, g2⟩
  · rw [e3, e4]
    rw [e1] at CT
    obtain ⟨q, hq⟩ : ∃ q, q = pyC ps y := ⟨_, rfl⟩
    rw [← hq] at CK e2 ⊢
    have hd : (q != 0) = true := by simp [e2]
    have hd2 : (q == 0) = false := by simp [e2]
    clear e1 e2 e3 e4 hq CA CE h h1 hz
    go_enter Tryz.func34, Tryz.ntmps34
    go_wp2_with fail
    refine CT.out.mono ?_
    rintro e w1 ⟨rfl, g2⟩
    have CK1 := Lib.hid (CK.out w1 g2)
    go_wp2_with fail
    refine CK1.out.mono ?_
    rintro e w2 ⟨rfl, g3⟩
    have hb2 := bstep9 g2 g2.size g3
    go_wp2_with fail
    go_ret2
    exact ⟨none, 0, 0, rfl, World.ownsRow_nil _ _ _ _, hb2⟩
  · rw [e5, e6]
    rw [e1] at CT
    rw [e2] at CK
    rw [e4] at CA
    clear e1 e2 e3 e4 e5 e6 CE h h1 hz
    go_enter Tryz.func34, Tryz.ntmps34
    go_wp2_with fail
    refine CT.out.mono ?_
    rintro e w1 ⟨rfl, g2⟩
    have CK1 := Lib.hid (CK.out w1 g2)
    go_wp2_with fail
    refine CK1.out.mono ?_
    rintro e w2 ⟨rfl, g3⟩
    have hb2 := bstep9 g2 g2.size g3
    have CA1 := Lib.hid (CA.out w2)
    go_wp2_with fail
    refine CA1.out.mono ?_
    rintro e w3 ⟨rfl, rfl⟩
    go_wp2_with fail
    go_ret2
    exact ⟨none, 0, 0, rfl, World.ownsRow_nil _ _ _ _, hb2⟩
  rw [e6, e7]
  rw [e1] at CT
  rw [e2] at CK
  rw [e4] at CA
  obtain ⟨hT, a, rfl, ha⟩ := clsC_one e3
  have HK0 : Hid (∀ p ∈ ps, 0 ≤ p.k) := Lib.hid (fun p hp => (pl_parts (reg_mem e5 hp)).2.1)
  have CKD := Lib.hid (fun (k : Nat) (hk : k < xs.length) W (hW : Below w.heap.size w W) => cKinds_spec A1 n1 c1 W.heap.size xs k W hT hk (Nat.le_refl _) (h1.grow hW))
  have HUL := Lib.hid (fun k hk => (upF_len hT k hk).2)
  have HXL : Hid (xs.length ≤ 1048576) := Lib.hid (by have := h1.1; omega)
  have CH := Lib.hid (fun K m ck ig W (hm : m ≤ 1048576) (hi : NumAt W W.heap.size K m ig) => cHas10 K m ck W.heap.size ig (a : Int) W (by unfold maxLen; omega) hi)
  obtain ⟨P, hP⟩ : ∃ P, P = kdB xs (a : Int) y := ⟨_, rfl⟩
  rw [← hP]
  have HP0 := Lib.hid hP
  clear e1 e2 e3 e4 e5 e6 e7 h h1 hz hT ha hP
  go_enter Tryz.func34, Tryz.ntmps34
  go_wp2_with fail
  refine CT.out.mono ?_
  rintro e w1 ⟨rfl, g2⟩
  have CK1 := Lib.hid (CK.out w1 g2)
  go_wp2_with fail
  refine CK1.out.mono ?_
  rintro e w2 ⟨rfl, g3⟩
  have hbt := bstep9 g2 g2.size g3
  have CA1 := Lib.hid (CA.out w2)
  have HBT := Lib.hid hbt
  clear g2 g3 CK1 CK CT hbt
  go_wp2_with fail
  refine CA1.out.mono ?_
  rintro e w3 ⟨rfl, rfl⟩
  have HO0 := Lib.hid (World.ownsRow_lit (e := 9) (base := w.heap.size) (size := 1) w2 #[] 0 HBT.out.size (by decide) rfl)
  have hb1a := HBT.out.alloc HBT.out.size (.cells #[] 9)
  go_wp2_with fail
  go_loopw [11, 12] (fun o i wr => ∃ (k m d : Nat) (B : Option Addr), k ≤ n ∧ i = .int .i64 k ∧ o = .slice B m d ∧ Hid (m ≤ k) ∧ Hid (wr.ownsRow w.heap.size 9 1 (.slice B m d) m (strV (cdZ P (ps.take k)))) ∧ Below w.heap.size w wr) (fun _ i _ => n - (intOf i).toNat)
  case atStart => exact ⟨0, 0, 0, _, Nat.zero_le _, rfl, rfl, Lib.hid (Nat.le_refl _), HO0, hb1a⟩
  case round =>
    clear HO0 hb1a CA1 CA
    obtain ⟨k, m, d, B, hk, rfl, rfl, HM, HO, hbw⟩ := hrel
    by_cases hlt : k < n
    · obtain ⟨p, hp⟩ : ∃ p, ps[k]? = some p := ⟨ps[k]'(by have := HN.out; omega), List.getElem?_eq_getElem _⟩
      obtain ⟨b, o, rfl, hbl, A2, d1, c0, c1, c2, c3, c4, hnm, hd⟩ := (H.out.below hbw (Nat.le_refl _)).row hp
      obtain ⟨W0, hW0⟩ : ∃ W0 : World, W0 = wr.alloc (.cells #[.string p.c, .int .i64 p.k, .int .i64 p.f, .int .i64 p.u, .slice A2 p.ns.length d1] 29) := ⟨_, rfl⟩
      have g0 : Below wr.heap.size wr W0 := by rw [hW0]; exact below_alloc11 _ _
      have HX : Hid (Bx W0 wr.heap.size [.string p.c, .int .i64 p.k, .int .i64 p.f, .int .i64 p.u, .slice A2 p.ns.length d1]) := Lib.hid (by rw [hW0]; exact Bx.new wr _ _)
      have HW0 := Lib.hid hW0
      have HB0 := Lib.hid g0
      have CX := Lib.hid (CE.out p A2 d1 W0)
      unfold plv11 at CX
      have HP := Lib.hid hp
      have HPK := Lib.hid (HK0.out p (List.mem_of_getElem? hp))
      have HBW := Lib.hid hbw
      have u1 : (0 : Int) ≤ (k : Int) := Int.natCast_nonneg _
      have u2 : (k : Int) < (n : Int) := by omega
      clear hp hnm hd hW0 g0 hbw
      have HNEXT : Hid (∀ W, Below W0.heap.size W0 W → P p = false → (W.ownsRow w.heap.size 9 1 (.slice B m d) m (strV (cdZ P (ps.take (k + 1)))) ∧ Below w.heap.size w W)) := Lib.hid (fun W hW hf => by
        have h1 := bstep9 HB0.out HB0.out.size hW
        exact ⟨by rw [cdZ_no HP.out hf]; exact keptW HO.out h1, bstep9 HBW.out HBW.out.size h1⟩)
      cases hx : exB p y
      · rw [hx] at CX
        have HF : Hid (P p = false) := Lib.hid (by rw [HP0.out]; unfold kdB; rw [hx]; rfl)
        clear hx
        go_wp2_with fail
        rw [← HW0.out]
        refine CX.out.mono ?_
        rintro e w4 ⟨rfl, g4⟩
        obtain ⟨hO4, hb4⟩ := HNEXT.out w4 g4 HF.out
        have HO4 := Lib.hid hO4
        clear g4 hO4 c0 c1 c2 c3 c4
        go_wp2_with fail
        go_roundw
        case rel => exact ⟨k + 1, m, d, B, by omega, by go_num, rfl, Lib.hid (by have := HM.out; omega), HO4, hb4⟩
        case measure => simp [intOf]; omega
      rw [hx] at CX
      by_cases hkn : p.k < (n1 : Int)
      rotate_left
      · have HF : Hid (P p = false) := Lib.hid (by rw [HP0.out]; unfold kdB; rw [decide_eq_false (show ¬ p.k < (xs.length : Int) by have := HN1.out; omega)]; simp)
        have hdk : decide (p.k < (n1 : Int)) = false := decide_eq_false hkn
        clear hx hkn
        go_wp2_with fail
        rw [← HW0.out]
        refine CX.out.mono ?_
        rintro e w4 ⟨rfl, g4⟩
        obtain ⟨e0, e1, e2, e3, e4, _⟩ := (HX.out.next g4).five
        obtain ⟨hO4, hb4⟩ := HNEXT.out w4 g4 HF.out
        have HO4 := Lib.hid hO4
        clear g4 hO4 c0 c1 c2 c3 c4
        go_wp2_with fail
        go_roundw
        case rel => exact ⟨k + 1, m, d, B, by omega, by go_num, rfl, Lib.hid (by have := HM.out; omega), HO4, hb4⟩
        case measure => simp [intOf]; omega
      have hdk : decide (p.k < (n1 : Int)) = true := decide_eq_true hkn
      obtain ⟨j, hj⟩ : ∃ j : Nat, p.k = (j : Int) := ⟨p.k.toNat, by have := HPK.out; omega⟩
      have hjl : j < xs.length := by have := HN1.out; omega
      have CKJ := Lib.hid (CKD.out j hjl)
      rw [← hj] at CKJ
      unfold OutR at CKJ
      have HUJ := Lib.hid (HUL.out j hjl)
      rw [← hj] at HUJ
      have HJL := Lib.hid hjl
      have HPV : Hid (P p = decide ((a : Int) ∈ upF xs p.k)) := Lib.hid (by rw [HP0.out]; unfold kdB; rw [hx, decide_eq_true (show p.k < (xs.length : Int) by have := HN1.out; omega)]; simp)
      clear hx hkn hj hjl
      generalize upF xs p.k = uk at CKJ HUJ HPV
      go_wp2_with fail
      rw [← HW0.out]
      refine CX.out.mono ?_
      rintro e w4 ⟨rfl, g4⟩
      obtain ⟨e0, e1, e2, e3, e4, _⟩ := (HX.out.next g4).five
      have hbw4 := bstep9 HB0.out HB0.out.size g4
      have CKJ4 := Lib.hid (CKJ.out w4 (bstep9 HBW.out HBW.out.size hbw4))
      have HG4 := Lib.hid g4
      clear g4 hbw4 c0 c1 c2 c3 c4
      go_wp2_with fail
      refine CKJ4.out.mono ?_
      rintro e w5 ⟨K, mk, ck, rfl, hown5, g5⟩
      have hmk : mk ≤ 1048576 := by have h1 := hown5.1; rw [intV_len] at h1; have := HUJ.out; have := HJL.out; have := HXL.out; omega
      have CH5 := Lib.hid (CH.out K mk ck uk w5 hmk (own_num hown5))
      have hg5 := bstep9 HG4.out HG4.out.size g5
      have hbw5 := bstep9 HBW.out HBW.out.size (bstep9 HB0.out HB0.out.size hg5)
      have q0 := (HX.out.next hg5).five.1
      have HG5 := Lib.hid hg5
      rw [← HPV.out] at CH5
      clear hown5 hmk g5 hg5 e0 e1 e2 e3 e4
      cases hf : P p
      · rw [hf] at CH5
        obtain ⟨hO5, hb5⟩ := HNEXT.out w5 HG5.out hf
        have HO5 := Lib.hid hO5
        clear hf hO5 hbw5
        go_wp2_with fail
        refine CH5.out.mono ?_
        rintro e w6 ⟨rfl, rfl⟩
        go_wp2_with fail
        go_roundw
        case rel => exact ⟨k + 1, m, d, B, by omega, by go_num, rfl, Lib.hid (by have := HM.out; omega), HO5, hb5⟩
        case measure => simp [intOf]; omega
      · rw [hf] at CH5
        have HST := Lib.hid (cdZ_yes HP.out hf)
        have hown := keptW HO.out (bstep9 HB0.out HB0.out.size HG5.out)
        have hmk := HM.out
        have hbt := hbw5
        clear hf hbw5
        go_wp2_with fail
        refine CH5.out.mono ?_
        rintro e w6 ⟨rfl, rfl⟩
        go_wp2_with (at_builtin; refine wpList_append_own _ rfl _ _ 38 rfl w.heap.size 9 i0 _ 1 16 Tryz.underlying38 hi0 hz0 hz1 hz2 rfl (by decide) _ _ _ rfl (hown.alloc _) ⟨w5.heap.size, 0, none⟩ 1 1 [.string p.c] rfl rfl ?d1 ?d2 ?d3 ?d4 ?d5 ?_)
        case d1 => exact one_cell' _ _ _ (new_one _ _ _)
        case d2 => intro u hu; simp at hu; subst hu; rfl
        case d3 => unfold maxLen; omega
        case d4 => omega
        case d5 => have := hbt.size; simp; omega
        intro v' w7 hown7 hgrow7 _
        rw [strV_snocW] at hown7
        have hb7 : Below w.heap.size w w7 := (hbt.alloc hbt.size _).grown hgrow7 (by have := hbt.size; simp; omega) (fun x hx => (hown.lt x hx).1)
        have HO7 : Hid (w7.ownsRow w.heap.size 9 1 v' (m + 1) (strV (cdZ P (ps.take (k + 1))))) := Lib.hid (by rw [HST.out]; exact hown7)
        obtain ⟨g', c', rfl, _, _⟩ := World.ownsRow.form HO7.out (by omega)
        clear hown7 hown hgrow7 q0
        go_wp2_with fail
        go_roundw
        case rel => exact ⟨k + 1, m + 1, c', some ⟨g', 0, none⟩, by omega, by go_num, rfl, Lib.hid (by omega), HO7, hb7⟩
        case measure => simp [intOf]; omega
    · have HF : Hid (wr.ownsRow w.heap.size 9 1 (.slice B m d) m (strV (cdZ P ps))) := Lib.hid (by have := HO.out; rwa [List.take_of_length_le (by have := HN.out; omega)] at this)
      go_wp2_with fail
      go_ret2
      exact ⟨B, m, d, rfl, HF.out, hbw⟩
end
section
set_option linter.unusedVariables false
open Go.RowKit

theorem beC_bad {xs : List Nm} {ls : List ByteArray} {y : Int} (h : qC xs ls y ≠ 0) : beC xs ls y = qC xs ls y := by unfold beC; rw [if_neg h]
theorem beC_hit {xs : List Nm} {ls : List ByteArray} {y : Int} {k : Nat} (h : qC xs ls y = 0) (hk : bestF xs y ls = some k) : beC xs ls y = 0 := by unfold beC; rw [if_pos h, hk]
theorem beC_miss {xs : List Nm} {ls : List ByteArray} {y : Int} (h : qC xs ls y = 0) (hk : bestF xs y ls = none) : beC xs ls y = 4 := by unfold beC; rw [if_pos h, hk]
theorem beZ_bad {xs : List Nm} {ls : List ByteArray} {y : Int} (h : qC xs ls y ≠ 0) : beZ xs ls y = 0 := by unfold beZ; rw [if_neg h]
theorem beZ_hit {xs : List Nm} {ls : List ByteArray} {y : Int} {k : Nat} (h : qC xs ls y = 0) (hk : bestF xs y ls = some k) : beZ xs ls y = (k : Int) := by unfold beZ; rw [if_pos h, hk]
theorem beZ_miss {xs : List Nm} {ls : List ByteArray} {y : Int} (h : qC xs ls y = 0) (hk : bestF xs y ls = none) : beZ xs ls y = 0 := by unfold beZ; rw [if_pos h, hk]
def LsI (xs : List Nm) (l : ByteArray) (y : Int) (k b : Nat) (f : Bool) : Prop := (f = false ∧ b = 0 ∧ lsF xs l y k = none) ∨ (f = true ∧ lsF xs l y k = some b)
def leastV (o : Option Nat) : Value := match o with | some b => .tuple #[.int .i64 (b : Int), .bool true] | none => .tuple #[.int .i64 0, .bool false]

set_option maxHeartbeats 4000000 in
set_option maxRecDepth 100000 in
theorem cLeast9 (A : Option Addr) (n c : Nat) (xs : List Nm) (l : ByteArray) (y : Int) (w : World) (hb : n ≤ 1048576) (h : NmAt w w.heap.size A n xs) :
    Calls Tryz.prog 203 #[.slice A n c, .string l, .int .i64 y] w fun e w' => e = .returned (leastV (lsF xs l y xs.length)) ∧ Below w.heap.size w w' := by
  have H := Lib.hid h
  have HN := Lib.hid h.1
  have CU := Lib.hid (fun x W => cUsed1 x y W)
  clear h
  go_enter Tryz.func203, Tryz.ntmps203
  go_wp2_with fail
  go_loopw [8, 9, 14] (fun p q i wr => ∃ (k b : Nat) (f : Bool), k ≤ n ∧ i = .int .i64 k ∧ p = .int .i64 b ∧ q = .bool f ∧ Hid (LsI xs l y k b f) ∧ Below w.heap.size w wr) (fun _ _ i _ => n - (intOf i).toNat)
  case atStart => exact ⟨0, 0, false, Nat.zero_le _, rfl, rfl, rfl, Lib.hid (.inl ⟨rfl, rfl, rfl⟩), Below.refl _ _⟩
  case round =>
    obtain ⟨k, b, f, hk, rfl, rfl, rfl, HL, hbw⟩ := hrel
    by_cases hlt : k < n
    · obtain ⟨x, hx⟩ : ∃ x, xs[k]? = some x := ⟨xs[k]'(by have := HN.out; omega), List.getElem?_eq_getElem _⟩
      obtain ⟨bk, o, rfl, hbl, c0, c1, c2, c3, c4⟩ := (H.out.below hbw (Nat.le_refl _)).row hx
      have hb1 := hbw.alloc hbw.size (.cells #[.string x.t, .string x.l, .int .i64 x.s, .int .i64 x.f, .int .i64 x.u] 100)
      have HB := Lib.hid hb1
      have HX := Lib.hid hx
      have CX := Lib.hid (fun W => CU.out x W)
      obtain ⟨W0, hW0⟩ : ∃ W0 : World, W0 = wr.alloc (.cells #[.string x.t, .string x.l, .int .i64 x.s, .int .i64 x.f, .int .i64 x.u] 100) := ⟨_, rfl⟩
      have K1 : NmCell W0 wr.heap.size 0 x := by rw [hW0]; exact nm_new wr x _
      have l1 : wr.heap.size < W0.heap.size := by rw [hW0]; simp
      have HW := Lib.hid hW0
      have HK1 := Lib.hid K1
      have u1 : (0 : Int) ≤ (k : Int) := Int.natCast_nonneg _
      have u2 : (k : Int) < (n : Int) := by omega
      have HZ : Hid (f = true → ∃ z, xs[b]? = some z ∧ (b : Int) < (n : Int) ∧ ∀ W, Below W0.heap.size W0 W → W.cell? ⟨bk, o + b * 5 + 2, none⟩ = some (.int .i64 z.s)) := Lib.hid (fun hf => by
        rcases HL.out with ⟨h1, _⟩ | ⟨_, h2⟩
        · rw [hf] at h1; cases h1
        obtain ⟨_, z, hz, _⟩ := ls_lt xs l y k b h2
        have hbn : b < xs.length := (List.getElem?_eq_some_iff.1 hz).1
        refine ⟨z, hz, by have := HN.out; omega, fun W hW => ?_⟩
        have hc := (H.out.below ((bstep9 HB.out HB.out.size (by rw [← HW.out]; exact hW))) (Nat.le_refl _)).row hz
        obtain ⟨b2, o2, hA, _, _, _, d2, _, _⟩ := hc
        obtain ⟨rfl, rfl⟩ : bk = b2 ∧ o = o2 := by injection hA with hA; injection hA with e1 e2; exact ⟨e1, e2⟩
        exact d2)
      clear hx hb1 hW0 K1
      have KC : Hid (∀ W, Below W0.heap.size W0 W → W.cell? ⟨wr.heap.size, 0, none⟩ = some (.string x.t) ∧ W.cell? ⟨wr.heap.size, 1, none⟩ = some (.string x.l) ∧ W.cell? ⟨wr.heap.size, 2, none⟩ = some (.int .i64 x.s) ∧ W.cell? ⟨wr.heap.size, 3, none⟩ = some (.int .i64 x.f) ∧ W.cell? ⟨wr.heap.size, 4, none⟩ = some (.int .i64 x.u)) := Lib.hid (fun W hW => HK1.out.below hW l1)
      have HBW : Hid (Below w.heap.size w W0) := Lib.hid (by rw [HW.out]; exact HB.out)
      clear HK1
      have CLS : ∀ {T : Type} {f : T → World} (hf : ∀ t, Below W0.heap.size W0 (f t)), True := fun _ => trivial
      clear CLS
      by_cases s1 : x.l = l
      · have z1 : (x.l.toList == l.toList) = true := by rw [toList_beq]; exact decide_eq_true s1
        cases hu : usB x y
        · rw [hu] at CX
          have HL2 : Hid (LsI xs l y (k + 1) b f) := Lib.hid (by unfold LsI; rw [ls_skip HX.out (by rw [hu, Bool.and_false])]; exact HL.out)
          clear hu s1
          go_wp2_with fail
          rw [← HW.out]
          obtain ⟨T, g, t0, hT, ht0, hf, hback⟩ := class_of W0
          have j0 : ∀ t, (g t).cell? ⟨wr.heap.size, 0, none⟩ = some (.string x.t) := fun t => (KC.out _ (hf t)).1
          have j1 : ∀ t, (g t).cell? ⟨wr.heap.size, 1, none⟩ = some (.string x.l) := fun t => (KC.out _ (hf t)).2.1
          have j2 : ∀ t, (g t).cell? ⟨wr.heap.size, 2, none⟩ = some (.int .i64 x.s) := fun t => (KC.out _ (hf t)).2.2.1
          have j3 : ∀ t, (g t).cell? ⟨wr.heap.size, 3, none⟩ = some (.int .i64 x.f) := fun t => (KC.out _ (hf t)).2.2.2.1
          have j4 : ∀ t, (g t).cell? ⟨wr.heap.size, 4, none⟩ = some (.int .i64 x.u) := fun t => (KC.out _ (hf t)).2.2.2.2
          have HF := Lib.hid hf
          have HK := Lib.hid hback
          clear hf hback c0 c1 c2 c3 c4 HW
          refine wp_region_class g t0 ht0 (by kernel_rfl) (by kernel_rfl) ?_
          clear ht0
          repeat (go_big_quiet_step (first | (go_at_call 128; exact Calls.class_of HF.out HK.out (CX.out _))))
          refine wpQuiet_nil ?_
          rintro w' ⟨t, rfl⟩
          have hbt := bstep9 HBW.out HBW.out.size (HF.out t)
          go_wp2_with fail
          go_roundw
          case rel => exact ⟨k + 1, b, f, by omega, by go_num, rfl, rfl, HL2, hbt⟩
          case measure => simp [intOf]; omega
        · rw [hu] at CX
          have hcc : (decide (x.l = l) && usB x y) = true := by rw [hu, decide_eq_true s1]; rfl
          rcases hL : HL.out with ⟨rfl, rfl, hn⟩ | ⟨rfl, hs⟩
          · have HL2 : Hid (LsI xs l y (k + 1) k true) := Lib.hid (.inr ⟨rfl, ls_first HX.out hcc hn⟩)
            clear hu s1 hcc hn HL hL HZ
            go_wp2_with fail
            rw [← HW.out]
            obtain ⟨T, g, t0, hT, ht0, hf, hback⟩ := class_of W0
            have j0 : ∀ t, (g t).cell? ⟨wr.heap.size, 0, none⟩ = some (.string x.t) := fun t => (KC.out _ (hf t)).1
            have j1 : ∀ t, (g t).cell? ⟨wr.heap.size, 1, none⟩ = some (.string x.l) := fun t => (KC.out _ (hf t)).2.1
            have j2 : ∀ t, (g t).cell? ⟨wr.heap.size, 2, none⟩ = some (.int .i64 x.s) := fun t => (KC.out _ (hf t)).2.2.1
            have j3 : ∀ t, (g t).cell? ⟨wr.heap.size, 3, none⟩ = some (.int .i64 x.f) := fun t => (KC.out _ (hf t)).2.2.2.1
            have j4 : ∀ t, (g t).cell? ⟨wr.heap.size, 4, none⟩ = some (.int .i64 x.u) := fun t => (KC.out _ (hf t)).2.2.2.2
            have HF := Lib.hid hf
            have HK := Lib.hid hback
            clear hf hback c0 c1 c2 c3 c4 HW
            refine wp_region_class g t0 ht0 (by kernel_rfl) (by kernel_rfl) ?_
            clear ht0
            repeat (go_big_quiet_step (first | (go_at_call 128; exact Calls.class_of HF.out HK.out (CX.out _))))
            refine wpQuiet_nil ?_
            rintro w' ⟨t, rfl⟩
            have hbt := bstep9 HBW.out HBW.out.size (HF.out t)
            go_wp2_with fail
            go_roundw
            case rel => exact ⟨k + 1, k, true, by omega, by go_num, rfl, rfl, HL2, hbt⟩
            case measure => simp [intOf]; omega
          · obtain ⟨z, hz, u3, hzc⟩ := HZ.out rfl
            have u4 : (0 : Int) ≤ (b : Int) := Int.natCast_nonneg _
            have HZC := Lib.hid hzc
            by_cases hless : x.s < z.s
            · have dd : decide (x.s < z.s) = true := decide_eq_true hless
              have HL2 : Hid (LsI xs l y (k + 1) k true) := Lib.hid (.inr ⟨rfl, ls_better HX.out hcc hs hz hless⟩)
              clear hu s1 hcc hs HL hL HZ hz hzc hless
              go_wp2_with fail
              rw [← HW.out]
              obtain ⟨T, g, t0, hT, ht0, hf, hback⟩ := class_of W0
              have j0 : ∀ t, (g t).cell? ⟨wr.heap.size, 0, none⟩ = some (.string x.t) := fun t => (KC.out _ (hf t)).1
              have j1 : ∀ t, (g t).cell? ⟨wr.heap.size, 1, none⟩ = some (.string x.l) := fun t => (KC.out _ (hf t)).2.1
              have j2 : ∀ t, (g t).cell? ⟨wr.heap.size, 2, none⟩ = some (.int .i64 x.s) := fun t => (KC.out _ (hf t)).2.2.1
              have j3 : ∀ t, (g t).cell? ⟨wr.heap.size, 3, none⟩ = some (.int .i64 x.f) := fun t => (KC.out _ (hf t)).2.2.2.1
              have j4 : ∀ t, (g t).cell? ⟨wr.heap.size, 4, none⟩ = some (.int .i64 x.u) := fun t => (KC.out _ (hf t)).2.2.2.2
              have j5 : ∀ t, (g t).cell? ⟨bk, o + b * 5 + 2, none⟩ = some (.int .i64 z.s) := fun t => HZC.out _ (hf t)
              have HF := Lib.hid hf
              have HK := Lib.hid hback
              clear hf hback c0 c1 c2 c3 c4 HW
              refine wp_region_class g t0 ht0 (by kernel_rfl) (by kernel_rfl) ?_
              clear ht0
              repeat (go_big_quiet_step (first | (go_at_call 128; exact Calls.class_of HF.out HK.out (CX.out _))))
              refine wpQuiet_nil ?_
              rintro w' ⟨t, rfl⟩
              have hbt := bstep9 HBW.out HBW.out.size (HF.out t)
              go_wp2_with fail
              go_roundw
              case rel => exact ⟨k + 1, k, true, by omega, by go_num, rfl, rfl, HL2, hbt⟩
              case measure => simp [intOf]; omega
            · have dd : decide (x.s < z.s) = false := decide_eq_false hless
              have HL2 : Hid (LsI xs l y (k + 1) b true) := Lib.hid (.inr ⟨rfl, ls_worse HX.out hcc hs hz hless⟩)
              clear hu s1 hcc hs HL hL HZ hz hzc hless
              go_wp2_with fail
              rw [← HW.out]
              obtain ⟨T, g, t0, hT, ht0, hf, hback⟩ := class_of W0
              have j0 : ∀ t, (g t).cell? ⟨wr.heap.size, 0, none⟩ = some (.string x.t) := fun t => (KC.out _ (hf t)).1
              have j1 : ∀ t, (g t).cell? ⟨wr.heap.size, 1, none⟩ = some (.string x.l) := fun t => (KC.out _ (hf t)).2.1
              have j2 : ∀ t, (g t).cell? ⟨wr.heap.size, 2, none⟩ = some (.int .i64 x.s) := fun t => (KC.out _ (hf t)).2.2.1
              have j3 : ∀ t, (g t).cell? ⟨wr.heap.size, 3, none⟩ = some (.int .i64 x.f) := fun t => (KC.out _ (hf t)).2.2.2.1
              have j4 : ∀ t, (g t).cell? ⟨wr.heap.size, 4, none⟩ = some (.int .i64 x.u) := fun t => (KC.out _ (hf t)).2.2.2.2
              have j5 : ∀ t, (g t).cell? ⟨bk, o + b * 5 + 2, none⟩ = some (.int .i64 z.s) := fun t => HZC.out _ (hf t)
              have HF := Lib.hid hf
              have HK := Lib.hid hback
              clear hf hback c0 c1 c2 c3 c4 HW
              refine wp_region_class g t0 ht0 (by kernel_rfl) (by kernel_rfl) ?_
              clear ht0
              repeat (go_big_quiet_step (first | (go_at_call 128; exact Calls.class_of HF.out HK.out (CX.out _))))
              refine wpQuiet_nil ?_
              rintro w' ⟨t, rfl⟩
              have hbt := bstep9 HBW.out HBW.out.size (HF.out t)
              go_wp2_with fail
              go_roundw
              case rel => exact ⟨k + 1, b, true, by omega, by go_num, rfl, rfl, HL2, hbt⟩
              case measure => simp [intOf]; omega
      · have z1 : (x.l.toList == l.toList) = false := by rw [toList_beq]; exact decide_eq_false s1
        have HL2 : Hid (LsI xs l y (k + 1) b f) := Lib.hid (by unfold LsI; rw [ls_skip HX.out (by rw [decide_eq_false s1]; rfl)]; exact HL.out)
        clear s1
        go_wp2_with fail
        rw [← HW.out]
        obtain ⟨T, g, t0, hT, ht0, hf, hback⟩ := class_of W0
        have j0 : ∀ t, (g t).cell? ⟨wr.heap.size, 0, none⟩ = some (.string x.t) := fun t => (KC.out _ (hf t)).1
        have j1 : ∀ t, (g t).cell? ⟨wr.heap.size, 1, none⟩ = some (.string x.l) := fun t => (KC.out _ (hf t)).2.1
        have HF := Lib.hid hf
        have HK := Lib.hid hback
        clear hf hback c0 c1 c2 c3 c4 HW
        refine wp_region_class g t0 ht0 (by kernel_rfl) (by kernel_rfl) ?_
        clear ht0
        repeat (go_big_quiet_step (fail))
        refine wpQuiet_nil ?_
        rintro w' ⟨t, rfl⟩
        have hbt := bstep9 HBW.out HBW.out.size (HF.out t)
        go_wp2_with fail
        go_roundw
        case rel => exact ⟨k + 1, b, f, by omega, by go_num, rfl, rfl, HL2, hbt⟩
        case measure => simp [intOf]; omega
    · have hkn : k = xs.length := by have := HN.out; omega
      have HL2 : Hid (leastV (lsF xs l y xs.length) = .tuple #[.int .i64 (b : Int), .bool f]) := Lib.hid (by
        rw [← hkn]
        rcases HL.out with ⟨rfl, rfl, hn⟩ | ⟨rfl, hs⟩
        · rw [hn]; rfl
        · rw [hs]; rfl)
      clear hkn
      go_wp2_with fail
      go_ret2
      exact ⟨by rw [HL2.out]; rfl, hbw⟩
end
end Go.Proofs.YtglmibmjbignbaaGreatDoor
