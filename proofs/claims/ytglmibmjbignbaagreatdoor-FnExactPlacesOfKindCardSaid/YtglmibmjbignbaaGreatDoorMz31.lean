/-
  The contracts of impl.subclassesOf and impl.SubclassesOf.
-/
import Derived.Test.YtglmibmjbignbaaGreatDoorMz30
import Derived.Laws.EntriesVeiled
import Derived.Test.YtglmibmjbignbaaGreatDoorPlWKd
import Derived.Test.YtglmibmjbignbaaGreatDoorMz29
namespace Go.Proofs.YtglmibmjbignbaaGreatDoor
section
set_option linter.unusedVariables false
open Go.RowKit

theorem tab_new10 {w : World} {g : Nat} (t : TypeId) (cs : Array Value) (hg : g = w.heap.size) : TabAt (w.alloc (.cells cs t)) g t cs := hg ▸ TabAt.new w t cs
/-- The world in which the walk begins. -/
def w3V (w : World) (A : Option Addr) (n c : Nat) : World := ((w.alloc (.cells #[.slice A n c] 49)).alloc (.cells #[.slice none 0 0] 49)).alloc (.cells #[cloV (w.heap.size + 1) w.heap.size (w.heap.size + 1 + 1)] 153)
theorem w3_size (w : World) (A : Option Addr) (n c : Nat) : w.heap.size + 3 ≤ (w3V w A n c).heap.size := by unfold w3V; simp
theorem w3_dn (w : World) (A : Option Addr) (n c : Nat) : Dn w (w.heap.size + 1) w.heap.size (w.heap.size + 1 + 1) (w.heap.size + 3) (.slice A n c) (w3V w A n c) (.slice none 0 0) none 0 0 [] := by
  unfold w3V
  refine ⟨World.ownsRow_nil _ _ _ _, ?_, ?_, ?_, ?_, by omega⟩
  · exact (tab_new10 _ _ (by simp)).alloc _
  · exact ((tab_new10 _ _ rfl).alloc _).alloc _
  · exact tab_new10 _ _ (by simp)
  · exact (((Below.refl _ _).alloc (Nat.le_refl _) _).alloc (by simp) _).alloc (by simp; omega) _

set_option maxHeartbeats 1000000 in
set_option maxRecDepth 100000 in
theorem cSubs (A : Option Addr) (n c : Nat) (xs : List Int) (a : Nat) (w : World) (hT : Tree xs) (ha : a < xs.length) (h : NumAt w w.heap.size A n xs) :
    Calls Tryz.prog 96 #[.slice A n c, .int .i64 (a : Int)] w (OutR (subU xs (a : Int) xs.length) w) := by
  have hmf : ∀ (fn : Fn) (first cap : Array Value) (w : World), (Instr.makeFunc fn first cap).run Tryz.prog w = .ok (.func fn first cap) w := fun _ _ _ _ => rfl
  have HE := Lib.hid (dfs_sub hT ha)
  have HDL := Lib.hid (dfs_len hT ha)
  have CW := Lib.hid (cWalk A n c xs w hT h (w.heap.size + 1) w.heap.size (w.heap.size + 1 + 1) (w.heap.size + 3) xs.length a (w3V w A n c) none 0 0 [] (by omega) ha (by have := dfs_len hT ha; have := hT.le; simp; omega) (w3_size w A n c) (w3_dn w A n c))
  have hl20 := hT.le
  rw [List.nil_append] at CW
  obtain ⟨zs, hzs⟩ : ∃ zs, zs = dfs xs xs.length a := ⟨_, rfl⟩
  rw [← hzs] at CW HE HDL
  rw [← HE.out]
  have CS : Hid (∀ (V : World) (A1 : Option Addr) (m c1 : Nat), V.ownsRow (w.heap.size + 3) 2 1 (.slice A1 m c1) m (intV zs) → Calls Tryz.prog 144 #[.slice A1 m c1] V (Srt10 A1 m c1 (w.heap.size + 3) zs V)) := Lib.hid (fun V A1 m c1 hV => tSort10 A1 m c1 _ zs V (by have h1 := hV.1; rw [intV_len] at h1; have := HDL.out; omega) hV)
  clear h hT ha hzs HE
  unfold DnOut w3V at CW
  unfold Srt10 at CS
  go_enter Tryz.func96, Tryz.ntmps96
  go_wp2_with fail
  refine CW.out.mono ?_
  rintro e w4 ⟨rfl, A4, m4, c4, hD, hs4⟩
  have HD := Lib.hid hD
  have hf := hD.fc
  have CS4 := Lib.hid (CS.out _ _ _ _ hD.own)
  clear hD hs4 CW CS
  go_wp2_with fail
  refine CS4.out.mono ?_
  rintro e w5 ⟨rfl, hO5, hg5⟩
  have HO5 := Lib.hid hO5
  have hf5 : w5.cell? ⟨w.heap.size + 1, 0, none⟩ = some (.slice A4 m4 c4) := ((tab_grown10 HD.out.fb hg5 (fun k hk => by have := (HD.out.own.lt k hk).1; omega)).cell 0).trans rfl
  have HB5 : Hid (Below w.heap.size w w5) := Lib.hid (below_own (B := 0) HD.out.bel hg5 (fun k hk => by have := (HD.out.own.lt k hk).1; omega))
  clear hO5 hg5 HD CS4 hf
  go_wp2_with fail
  go_ret
  exact ⟨A4, m4, c4, rfl, rowBase HO5.out (by omega), HB5.out⟩

end
section
set_option linter.unusedVariables false
open Go.RowKit

theorem own_numK {w : World} {base : Nat} {A : Option Addr} {m c : Nat} {zs : List Int} (h : w.ownsRow base 2 1 (.slice A m c) m (intV zs)) : NumAt w w.heap.size A m zs := own_num h
set_option maxHeartbeats 1000000 in
theorem cKd1 (p : Pl) (A K : Option Addr) (d ga gb m ck : Nat) (y : Int) (ks : List Int) (w : World) (hm : m ≤ 1048576) (hn : NmAt w w.heap.size A p.ns.length p.ns) (hY : Bx w ga [.int .i64 y]) (hK : Bx w gb [.slice K m ck]) (hks : NumAt w w.heap.size K m ks) :
    Calls Tryz.prog 97 #[enA p A d, .pointer (some ⟨ga, 0, none⟩), .pointer (some ⟨gb, 0, none⟩)] w fun e w' => e = .returned (.bool (exB p y && decide (p.k ∈ ks))) ∧ Below w.heap.size w w' := by
  obtain ⟨W0, hW0⟩ : ∃ W0 : World, W0 = w.alloc (.cells #[.slice A p.ns.length d, .string p.c, .int .i64 p.k, .int .i64 p.f, .int .i64 p.u] 87) := ⟨_, rfl⟩
  have hA : Below w.heap.size w W0 := by rw [hW0]; exact below_alloc11 _ _
  have HA := Lib.hid hA
  have HX : Hid (Bx W0 w.heap.size [.slice A p.ns.length d, .string p.c, .int .i64 p.k, .int .i64 p.f, .int .i64 p.u]) := Lib.hid (by rw [hW0]; exact Bx.new w _ _)
  have CX := Lib.hid (cExists p A d y W0)
  have CC := Lib.hid (fun W (hW : Below W0.heap.size W0 W) => cContains10 K m ck W.heap.size ks p.k W (by unfold maxLen; omega) ((hks.grow hA).grow hW))
  have HY := Lib.hid (hY.next hA)
  have HK := Lib.hid (hK.next hA)
  have HW0 := Lib.hid hW0
  obtain ⟨f0, f1, f2, f3, f4, _⟩ := HX.out.five
  have k0 := (hY.2 0 _ rfl).1
  have hl := hY.1
  clear hA hn hY hK hW0 hks
  unfold enA at CX ⊢
  obtain ⟨b, hbb⟩ : ∃ b, b = decide (p.k ∈ ks) := ⟨_, rfl⟩
  rw [← hbb] at CC ⊢
  clear hbb
  cases hx : exB p y
  · rw [hx] at CX
    clear hx CC
    go_enter Tryz.func97, Tryz.ntmps97
    go_wp2_with fail
    rw [← HW0.out]
    refine CX.out.mono ?_
    rintro e w1 ⟨rfl, g1⟩
    have hbt := bstep9 HA.out HA.out.size g1
    clear g1 f0 f1 f2 f3 f4 k0
    go_wp2_with fail
    go_ret
    exact ⟨rfl, hbt⟩
  · rw [hx] at CX
    clear hx
    go_enter Tryz.func97, Tryz.ntmps97
    go_wp2_with fail
    rw [← HW0.out]
    refine CX.out.mono ?_
    rintro e w1 ⟨rfl, g1⟩
    obtain ⟨e0, e1, e2, e3, e4, _⟩ := (HX.out.next g1).five
    have k1 := ((HK.out.next g1).2 0 _ rfl).1
    have CC1 := Lib.hid (CC.out w1 g1)
    have hbt := bstep9 HA.out HA.out.size g1
    clear g1 f0 f1 f2 f3 f4 k0
    go_wp2_with fail
    refine CC1.out.mono ?_
    rintro e w2 ⟨rfl, rfl⟩
    go_wp2_with fail
    go_ret
    exact ⟨rfl, hbt⟩
theorem below_drNK {B : Nat} {a w : World} (h : Below B a w) (n : Nat) : Below B a (w.drewN n) := ⟨h.os, h.tape, h.output, h.size, h.block⟩
set_option maxHeartbeats 2000000 in
set_option maxRecDepth 100000 in
theorem cKd_impl (A A1 : Option Addr) (n c n1 c1 : Nat) (ps : List Pl) (xs : List Int) (a y : Int) (w : World) (hb : n ≤ 1048576) (hb1 : n1 ≤ 1048576) (hz : Sz11 ps) (h : PlAt w w.heap.size A n ps) (h1 : NumAt w w.heap.size A1 n1 xs) (hsh : w.ShapedOpen Tryz.prog) (her : Er6 w) :
    Calls Tryz.prog 33 #[.slice A n c, .slice A1 n1 c1, .int .i64 a, .int .i64 y] w (OutT11 (pkZ ps xs a y) (pkC ps xs a y) w) := by
  have hmf : ∀ (fn : Fn) (first cap : Array Value) (w : World), (Instr.makeFunc fn first cap).run Tryz.prog w = .ok (.func fn first cap) w := fun _ _ _ _ => rfl
  obtain ⟨V1, hV1⟩ : ∃ V1 : World, V1 = w.alloc (.cells #[.int .i64 y] 2) := ⟨_, rfl⟩
  have g1 : Below w.heap.size w V1 := by rw [hV1]; exact below_alloc11 _ _
  have HB := Lib.hid g1
  have HY : Hid (Bx V1 w.heap.size [.int .i64 y]) := Lib.hid (by rw [hV1]; exact Bx.new w #[.int .i64 y] 2)
  have CT : Hid (Calls Tryz.prog 94 #[.slice A1 n1 c1] V1 fun e w' => e = .returned (.bool (treeB xs)) ∧ Below V1.heap.size V1 w') := Lib.hid ((cTree_impl A1 n1 c1 V1.heap.size xs V1 (by unfold maxLen; omega) (h1.grow g1)).mono fun e w' hh => ⟨hh.1, by obtain ⟨q, rfl⟩ := hh.2; exact below_drNK (Below.refl _ _) q⟩)
  have CK := Lib.hid (fun W (hW : Below V1.heap.size V1 W) => cChkReg A n c ps y W hb hz (h.grow (bstep9 g1 g1.size hW)) (shaped_below hsh (bstep9 g1 g1.size hW)) (her.below (bstep9 g1 g1.size hW)))
  have CC := Lib.hid (fun W (hW : Below V1.heap.size V1 W) => cChk1 A1 n1 c1 xs a W hb1 (h1.grow (bstep9 g1 g1.size hW)))
  have HV1 := Lib.hid hV1
  rcases pk_cases ps xs a y with ⟨e1, e2, e3⟩ | ⟨e1, e2, e3, e4⟩ | ⟨e1, e2, e3, e4, e5, e6⟩ | ⟨e1, e2, e3, e4, e5, e6, e7⟩
  · rw [e2, e3]
    rw [e1] at CT
    clear e1 e2 e3 CK CC h h1 hsh her hz g1 hV1
    go_enter Tryz.func33, Tryz.ntmps33
    go_wp2_with fail
    rw [← HV1.out]
    go_wp2_with fail
    refine CT.out.mono ?_
    rintro e w1 ⟨rfl, g2⟩
    have hbt := bstep9 HB.out HB.out.size g2
    go_wp2_with fail
    go_ret2
    exact ⟨none, 0, 0, rfl, World.ownsRow_nil _ _ _ _, hbt⟩
  · rw [e3, e4]
    rw [e1] at CT
    obtain ⟨q, hq⟩ : ∃ q, q = pyC ps y := ⟨_, rfl⟩
    rw [← hq] at CK e2 ⊢
    have hd : (q != 0) = true := by simp [e2]
    clear e1 e2 e3 e4 hq CC h h1 hsh her hz g1 hV1
    go_enter Tryz.func33, Tryz.ntmps33
    go_wp2_with fail
    rw [← HV1.out]
    go_wp2_with fail
    refine CT.out.mono ?_
    rintro e w1 ⟨rfl, g2⟩
    have k1 := ((HY.out.next g2).2 0 _ rfl).1
    have CK1 := Lib.hid (CK.out w1 g2)
    have hbt := bstep9 HB.out HB.out.size g2
    clear g2
    go_wp2_with fail
    refine CK1.out.mono ?_
    rintro e w2 ⟨rfl, g3⟩
    have hb2 := bstep9 hbt hbt.size g3
    go_wp2_with fail
    go_ret2
    exact ⟨none, 0, 0, rfl, World.ownsRow_nil _ _ _ _, hb2⟩
  · rw [e5, e6]
    rw [e1] at CT
    rw [e2] at CK
    rw [e3] at CC
    clear e1 e2 e3 e4 e5 e6 h h1 hsh her hz g1 hV1
    go_enter Tryz.func33, Tryz.ntmps33
    go_wp2_with fail
    rw [← HV1.out]
    go_wp2_with fail
    refine CT.out.mono ?_
    rintro e w1 ⟨rfl, g2⟩
    have k1 := ((HY.out.next g2).2 0 _ rfl).1
    have CK1 := Lib.hid (CK.out w1 g2)
    have HG2 := Lib.hid g2
    have hbt := bstep9 HB.out HB.out.size g2
    clear g2
    go_wp2_with fail
    refine CK1.out.mono ?_
    rintro e w2 ⟨rfl, g3⟩
    have hb2 := bstep9 hbt hbt.size g3
    have CC1 := Lib.hid (CC.out w2 (bstep9 HG2.out HG2.out.size g3))
    clear g3 k1
    go_wp2_with fail
    refine CC1.out.mono ?_
    rintro e w3 ⟨rfl, g4⟩
    have hb3 := bstep9 hb2 hb2.size g4
    go_wp2_with fail
    go_ret2
    exact ⟨none, 0, 0, rfl, World.ownsRow_nil _ _ _ _, hb3⟩
  · rw [e6, e7]
    rw [e1] at CT
    rw [e2] at CK
    rw [e3] at CC
    obtain ⟨hT, a, rfl, ha⟩ := clsC_one e3
    have CS := Lib.hid (fun W (hW : Below V1.heap.size V1 W) => cSubs A1 n1 c1 xs a W hT ha (h1.grow (bstep9 g1 g1.size hW)))
    have HSL := Lib.hid (sub_len xs (a : Int) xs.length)
    have HXL : Hid (xs.length ≤ 1048576) := Lib.hid (by have := h1.1; omega)
    have HKS : Hid (∀ p ∈ ps, (exB p y && decide (p.k ∈ subU xs (a : Int) xs.length)) = kdB xs (a : Int) y p) := Lib.hid (fun p hp => (kd_sub (reg_mem e5 hp)).symm)
    obtain ⟨ks, hks⟩ : ∃ ks, ks = subU xs (a : Int) xs.length := ⟨_, rfl⟩
    rw [← hks] at CS HSL HKS
    unfold OutR at CS
    have H := Lib.hid h
    have CW : Hid (∀ K m ck W2 V, Below V1.heap.size V1 W2 → NumAt W2 W2.heap.size K m ks → m ≤ 1048576 → V = W2.alloc (.cells #[.slice K m ck] 49) → Calls Tryz.prog 72 #[.slice A n c, .func (.func 97) #[] #[.pointer (some ⟨w.heap.size, 0, none⟩), .pointer (some ⟨W2.heap.size, 0, none⟩)]] V (RowT11 (cdZ (kdB xs (a : Int) y) ps) V)) := Lib.hid (fun K m ck W2 V hW2 hnum hm hV => by
      have gV : Below W2.heap.size W2 V := by rw [hV]; exact below_alloc11 _ _
      have hBK : Bx V W2.heap.size [.slice K m ck] := by rw [hV]; exact Bx.new W2 #[.slice K m ck] 49
      have hg := bstep9 hW2 hW2.size gV
      exact cWhereKd A n c ps w.heap.size W2.heap.size (kdB xs (a : Int) y) V hb (H.out.grow (bstep9 HB.out HB.out.size hg)) (fun p hp A d X hX hn _ => by
        rw [← HKS.out p hp]
        exact cKd1 p A K d w.heap.size W2.heap.size m ck y ks X hm hn ((HY.out.next hg).next hX) (hBK.next hX) ((hnum.grow gV).grow hX)))
    obtain ⟨zs, hzs⟩ : ∃ zs, zs = cdZ (kdB xs (a : Int) y) ps := ⟨_, rfl⟩
    rw [← hzs] at CW ⊢
    clear e1 e2 e3 e4 e5 e6 e7 h h1 hsh her hz g1 hV1 hT ha hks hzs HKS
    go_enter Tryz.func33, Tryz.ntmps33
    go_wp2_with fail
    rw [← HV1.out]
    go_wp2_with fail
    refine CT.out.mono ?_
    rintro e w1 ⟨rfl, g2⟩
    have k1 := ((HY.out.next g2).2 0 _ rfl).1
    have CK1 := Lib.hid (CK.out w1 g2)
    have HG2 := Lib.hid g2
    clear g2
    go_wp2_with fail
    refine CK1.out.mono ?_
    rintro e w2 ⟨rfl, g3⟩
    have hg3 := bstep9 HG2.out HG2.out.size g3
    have CC1 := Lib.hid (CC.out w2 hg3)
    clear g3 k1
    go_wp2_with fail
    refine CC1.out.mono ?_
    rintro e w3 ⟨rfl, g4⟩
    have hg4 := bstep9 hg3 hg3.size g4
    have CS1 := Lib.hid (CS.out w3 hg4)
    have HG4 := Lib.hid hg4
    clear g4 hg3 hg4
    go_wp2_with fail
    refine CS1.out.mono ?_
    rintro e w4 ⟨K, m, ck, rfl, hown, g5⟩
    have hg5 := bstep9 HG4.out HG4.out.size g5
    have hnum := own_num hown
    have hm : m ≤ 1048576 := by have h1 := hown.1; rw [intV_len] at h1; have := HSL.out; have := HXL.out; omega
    obtain ⟨V, hV⟩ : ∃ V : World, V = w4.alloc (.cells #[.slice K m ck] 49) := ⟨_, rfl⟩
    have CW1 := Lib.hid (CW.out K m ck w4 V hg5 hnum hm hV)
    have hgV : Below V1.heap.size V1 V := bstep9 hg5 hg5.size (by rw [hV]; exact below_alloc11 _ _)
    have HBV := Lib.hid (bstep9 HB.out HB.out.size hgV)
    have HV := Lib.hid hV
    clear hown hnum hm g5 hg5 hgV hV
    go_wp2_with fail
    rw [← HV.out]
    refine CW1.out.mono ?_
    rintro e w5 ⟨B, m5, d5, rfl, hown5, g6⟩
    have hb6 := bstep9 HBV.out HBV.out.size g6
    have HO := Lib.hid (World.ownsRow.mono hown5 HBV.out.size)
    clear hown5 g6
    go_wp2_with fail
    go_ret2
    exact ⟨B, m5, d5, rfl, HO.out, hb6⟩
end
end Go.Proofs.YtglmibmjbignbaaGreatDoor
