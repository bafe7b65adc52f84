/-
  The contracts of nameIn and impl.ReadName.
-/
import Derived.Test.YthlilfdndpnbkaaGreatDoorMg13
import Derived.Test.YthlilfdndpnbkaaGreatDoorMg14
import Derived.Test.YthlilfdndpnbkaaGreatDoorMg15
namespace Go.Proofs.YthlilfdndpnbkaaGreatDoor
set_option linter.unusedVariables false
open Go.RowKit

theorem nm_sp9 {x : Nm} (h : nmB x = true) : spB x.f x.u = true := (nm_parts h).2.2.2.2
def zNm : Nm := ⟨ByteArray.empty, ByteArray.empty, 0, 0, 0⟩
def RdOut (n : Nm) (c : Int) (w : World) (e : Ending) (w' : World) : Prop := (∃ v, e = .returned (.tuple #[nmA n, v]) ∧ RefV c v) ∧ Below w.heap.size w w'
theorem rd_four {s : ByteArray} {n : Nm} (h1 : nmB n = true) (h2 : ntB n = s) : (piecesB 47 s).length = 4 := by rw [← h2, nt_pieces h1]; rfl
theorem rd_same {s a b c d : ByteArray} {v x y : Int} (h : piecesB 47 s = [a, b, c, d]) (hv : numB v = c) (hv1 : -9223372036854775808 ≤ v ∧ v ≤ 9223372036854775807) (hd : d = spanB x y) (hxy : spB x y = true) {n : Nm} (h1 : nmB n = true) (h2 : ntB n = s) : n = ⟨a, b, v, x, y⟩ := by
  obtain ⟨e1, e2, e3, e4⟩ := rd_parts h h1 h2
  obtain ⟨_, _, p1, p2, p3⟩ := nm_parts h1
  have b1 := spB_bd p3
  have b2 := spB_bd hxy
  have k2 := pieces_span n.f n.u
  rw [e4, hd, pieces_span x y] at k2
  injection k2 with f1 k2
  injection k2 with f2 k2
  injection k2 with f3 k2
  exact Nm.ext' e1 e2 (num_inj9 (a := n.s) (b := v) (by omega) hv1 (e3.trans hv.symm)) (num_inj9 (a := n.f) (b := x) (by omega) (by omega) f1.symm) (num_inj9 (a := n.u) (b := y) (by omega) (by omega) f3.symm)

/-- A box for a result. -/
def NRes (w : World) (B : Nat) : Prop := B < w.heap.size ∧ (w.cell? ⟨B, 0, none⟩ = some (.string ByteArray.empty) ∧ w.cell? ⟨B, 1, none⟩ = some (.string ByteArray.empty) ∧ w.cell? ⟨B, 2, none⟩ = some (.int .i64 0) ∧ w.cell? ⟨B, 3, none⟩ = some (.int .i64 0) ∧ w.cell? ⟨B, 4, none⟩ = some (.int .i64 0)) ∧ ∀ k, w.frozen? ⟨B, k, none⟩ = false
theorem NRes.below {w w' : World} {B : Nat} (h : NRes w B) (hb : Below w.heap.size w w') : NRes w' B :=
  ⟨Nat.lt_of_lt_of_le h.1 hb.size, ⟨(hb.cell (p := ⟨B, 0, none⟩) h.1).trans h.2.1.1, (hb.cell (p := ⟨B, 1, none⟩) h.1).trans h.2.1.2.1, (hb.cell (p := ⟨B, 2, none⟩) h.1).trans h.2.1.2.2.1, (hb.cell (p := ⟨B, 3, none⟩) h.1).trans h.2.1.2.2.2.1, (hb.cell (p := ⟨B, 4, none⟩) h.1).trans h.2.1.2.2.2.2⟩, fun k => (hb.frozen (p := ⟨B, k, none⟩) h.1).trans (h.2.2 k)⟩
theorem NRes.new (w : World) : NRes (w.alloc (.cells #[.string ByteArray.empty, .string ByteArray.empty, .int .i64 0, .int .i64 0, .int .i64 0] 27)) w.heap.size :=
  ⟨by simp, ⟨by rw [World.cell?_alloc_at _ _ _ _ rfl]; rfl, by rw [World.cell?_alloc_at _ _ _ _ rfl]; rfl, by rw [World.cell?_alloc_at _ _ _ _ rfl]; rfl, by rw [World.cell?_alloc_at _ _ _ _ rfl]; rfl, by rw [World.cell?_alloc_at _ _ _ _ rfl]; rfl⟩, fun k => World.frozen?_alloc_new _ _ _ _⟩
theorem setR5 {B : Nat} {w w' : World} (h : Below B w w') {g : Nat} (hg : B ≤ g) (x y z u v : Value) : Below B w (((((w'.setCell ⟨g, 0, none⟩ x).setCell ⟨g, 1, none⟩ y).setCell ⟨g, 2, none⟩ z).setCell ⟨g, 3, none⟩ u).setCell ⟨g, 4, none⟩ v) :=
  ((((h.setCell hg x).setCell hg y).setCell hg z).setCell hg u).setCell hg v

set_option maxHeartbeats 4000000 in
set_option maxRecDepth 100000 in
theorem cNameIn (s : ByteArray) (w : World) (hs : s.size ≤ 1048576) (hl : Laid w) (hsh : w.ShapedOpen Tryz.prog) (her : Er5 w) :
    Calls Tryz.prog 50 #[.string s] w (RdOut (rdF s) (rdC s) w) := by
  obtain ⟨hq0, hq1, hq2, hq3⟩ := cutN_facts 47 5 s (by omega)
  obtain ⟨W0, hW0⟩ : ∃ W0, W0 = w.alloc (.cells #[.string ⟨#[]⟩, .string ⟨#[]⟩, .int .i64 0, .int .i64 0, .int .i64 0] 27) := ⟨_, rfl⟩
  have hb0 : Below w.heap.size w W0 := by rw [hW0]; exact (Below.refl w.heap.size w).alloc (Nat.le_refl _) _
  have K0 : NRes W0 w.heap.size := by rw [hW0]; exact NRes.new w
  have HW0 := Lib.hid hW0
  have HB0 := Lib.hid hb0
  have HR0 := Lib.hid K0
  clear hW0 K0
  have hc := Tryz.strings_SplitN_shaped s (sepB 47) 5 W0 (shaped_below hsh hb0) (by omega) (by show 1 ≤ 1; omega) (by omega) (by omega)
  have hsz : ∀ x ∈ cutN 47 5 s, x.size ≤ 1048576 := fun x hx => Nat.le_trans (piece_sz9 47 _ s x hx) hs
  change Calls _ _ _ _ (fun e w' => e = .returned (.slice _ (cutN 47 5 s).length _) ∧ w' = W0.alloc (.cells (Lib.cellsOf (cutN 47 5 s) _) _)) at hc
  have CR := Lib.hid (fun x (hx : x.size ≤ 1048576) W (hW : Below w.heap.size w W) => cRead x W (by omega) (hl.below hW))
  have CS := Lib.hid (fun d x y c (hx : d.size ≤ 1048576) hcase W (hW : Below w.heap.size w W) => cRS_both d x y c W (by omega) (hl.below hW) (shaped_below hsh hW) hcase)
  have CC := Lib.hid (fun (m : Nm) W (hW : Below w.heap.size w W) (h1 : m.t.size ≤ 1048576) (h2 : m.l.size ≤ 1048576) => cCheck m W (by omega) (by unfold maxLen; omega) (shaped_below hsh hW) (her.below hW).e)
  have HE := Lib.hid (fun W (hW : Below w.heap.size w W) => (her.below hW).r)
  have hgne : ¬ w.heap.size = 0 := by
    obtain ⟨v, hv⟩ := her.r
    have := World.block_lt_of_cell? w _ hv
    simp at this
    omega
  have HF4 : Hid (∀ n : Nm, nmB n = true → ntB n = s → (cutN 47 5 s).length = 4) := Lib.hid (fun n h1 h2 => by
    have h4 := rd_four h1 h2
    rw [hq3 (by omega)]; exact h4)
  have HQP : Hid ((cutN 47 5 s).length = 4 → piecesB 47 s = cutN 47 5 s) := Lib.hid (fun h => (hq2 (by omega)).symm)
  generalize hQ : cutN 47 5 s = Q at *
  generalize min 5 (s.size + 1) = N at *
  obtain ⟨n, hn⟩ : ∃ n, n = Q.length := ⟨_, rfl⟩
  rw [← hn] at hq0 hq1 hc HF4 HQP
  have HN := Lib.hid hn
  have HC := Lib.hid hc
  have HS := Lib.hid hsz
  have hn5 : n ≤ 5 := hq1
  clear hn hc hsz hsh hq2 hq3 hl hQ her hq0 hq1 hb0
  go_enter Tryz.func50, Tryz.ntmps50
  go_wp2_with fail
  rw [← HW0.out]
  refine (show Calls Tryz.prog 96 #[.string s, .string (sepB 47), .int .i64 5] _ _ from HC.out).mono ?_
  rintro e w1 ⟨rfl, hw1⟩
  have g1 : Below W0.heap.size W0 w1 := by rw [hw1]; exact (Below.refl _ _).alloc (Nat.le_refl _) _
  have hb1 := bstep9 HB0.out HB0.out.size g1
  have hl1 : W0.heap.size < w1.heap.size := by rw [hw1]; simp
  have HR1 := Lib.hid (HR0.out.below g1)
  clear g1
  have HK : Hid (∀ (j : Nat) x, Q[j]? = some x → w1.cell? ⟨W0.heap.size, j, none⟩ = some (.string x)) := Lib.hid (fun j x hx => by
    rw [hw1, World.cell?_alloc_at _ _ _ _ rfl]
    unfold Lib.cellsOf
    have hj := (List.getElem?_eq_some_iff.1 hx).1
    rw [List.getElem?_toArray, List.getElem?_append_left (by simpa using hj)]
    simp [hx])
  clear hw1
  by_cases h4 : n = 4
  rotate_left
  · have hm := rd_miss (s := s) (fun m h1 h2 => h4 (HF4.out m h1 h2))
    have HM1 := Lib.hid hm.1
    have HM2 := Lib.hid hm.2
    have z1 : ((n : Int) != 4) = true := by simp; omega
    obtain ⟨v, hv⟩ := HE.out w1 hb1
    obtain ⟨lB, ⟨a0, a1, a2, a3, a4⟩, fB⟩ := HR1.out
    clear hm h4
    go_wp2_with fail
    go_region
    go_wp2_with fail
    refine bodyPost_ret (v := .tuple #[.agg #[.string ⟨#[]⟩, .string ⟨#[]⟩, .int .i64 0, .int .i64 0, .int .i64 0], .iface 135 (.agg #[.int .i64 6, .iface 257 v])]) ?_ rfl ⟨⟨_, by rw [HM1.out]; rfl, by rw [HM2.out]; exact .inr ⟨by decide, v, rfl⟩⟩, (setR5 hb1 (Nat.le_refl _) _ _ _ _ _).drew⟩
    simp [results, Tryz.results50, go_sem, a0, a1, a2, a3, a4]
  · subst h4
    obtain ⟨a, b, c, d, hQ⟩ : ∃ a b c d, Q = [a, b, c, d] := by
      match Q, HN.out with
      | [a, b, c, d], _ => exact ⟨a, b, c, d, rfl⟩
    subst hQ
    have HP := Lib.hid (HQP.out rfl)
    have sa := HS.out a (by simp)
    have sb := HS.out b (by simp)
    have sc := HS.out c (by simp)
    have sd := HS.out d (by simp)
    have k0 := HK.out 0 a rfl
    have k1 := HK.out 1 b rfl
    have k2 := HK.out 2 c rfl
    have k3 := HK.out 3 d rfl
    have KC : Hid (∀ W, Below w1.heap.size w1 W → W.cell? ⟨W0.heap.size, 0, none⟩ = some (.string a) ∧ W.cell? ⟨W0.heap.size, 1, none⟩ = some (.string b) ∧ W.cell? ⟨W0.heap.size, 2, none⟩ = some (.string c) ∧ W.cell? ⟨W0.heap.size, 3, none⟩ = some (.string d)) := Lib.hid (fun W hW =>
      ⟨(hW.cell (p := ⟨W0.heap.size, 0, none⟩) hl1).trans k0, (hW.cell (p := ⟨W0.heap.size, 1, none⟩) hl1).trans k1, (hW.cell (p := ⟨W0.heap.size, 2, none⟩) hl1).trans k2, (hW.cell (p := ⟨W0.heap.size, 3, none⟩) hl1).trans k3⟩)
    obtain ⟨x, y, cd, hcase⟩ := rs_case d
    have C1 := Lib.hid (CR.out c sc)
    have C2 := Lib.hid (CS.out d x y cd sd hcase)
    have HB1 := Lib.hid hb1
    unfold rsV at C2
    clear k0 k1 k3 hb1 HC HN HS HF4 HQP
    cases hr : rN c with
    | none =>
      have hm := rd_miss (s := s) (fun n h1 h2 => by
        obtain ⟨_, _, e3, _⟩ := rd_parts HP.out h1 h2
        obtain ⟨_, _, p1, p2, _⟩ := nm_parts h1
        rw [← e3, rN_of n.s (by omega) (by omega)] at hr; cases hr)
      have HM1 := Lib.hid hm.1
      have HM2 := Lib.hid hm.2
      rw [rV_none hr] at C1
      clear hr hm hcase
      go_wp2_with fail
      refine (C1.out _ HB1.out).mono ?_
      rintro e w2 ⟨rfl, g2⟩
      obtain ⟨_, _, _, q3⟩ := KC.out w2 g2
      have hb2 := bstep9 HB1.out HB1.out.size g2
      clear k2
      go_wp2_with fail
      refine (C2.out _ hb2).mono ?_
      rintro e w3 ⟨rfl, g3⟩
      have hb3 := bstep9 hb2 hb2.size g3
      have g13 := bstep9 g2 g2.size g3
      have gb := (Below.refl w3.heap.size w3).alloc (Nat.le_refl _) (.cells #[.int .i64 x, .int .i64 y] 25)
      have hb4 := bstep9 hb3 hb3.size gb
      have g14 := bstep9 g13 g13.size gb
      have HR4 := Lib.hid ((HR1.out.below g13).below gb)
      obtain ⟨v, hv⟩ := HE.out _ hb4
      obtain ⟨lB, ⟨a0, a1, a2, a3, a4⟩, fB⟩ := HR4.out
      clear g2 g3 hb2 q3 g13 gb g14 hb3
      go_wp2_with fail
      go_region
      go_wp2_with fail
      refine bodyPost_ret (v := .tuple #[.agg #[.string ⟨#[]⟩, .string ⟨#[]⟩, .int .i64 0, .int .i64 0, .int .i64 0], .iface 135 (.agg #[.int .i64 6, .iface 257 v])]) ?_ rfl ⟨⟨_, by rw [HM1.out]; rfl, by rw [HM2.out]; exact .inr ⟨by decide, v, rfl⟩⟩, (setR5 hb4 (Nat.le_refl _) _ _ _ _ _).drew⟩
      simp [results, Tryz.results50, go_sem, a0, a1, a2, a3, a4]
    | some v =>
      obtain ⟨hv1, hv2⟩ := rN_some hr
      rw [rV_some hr] at C1
      rcases hcase with ⟨hd, hxy, rfl⟩ | ⟨hno, rfl, rfl, rfl⟩
      rotate_left
      · have hm := rd_miss (s := s) (fun n h1 h2 => by
          obtain ⟨_, _, _, e4⟩ := rd_parts HP.out h1 h2
          exact hno n.f n.u (nm_sp9 h1) e4.symm)
        have HM1 := Lib.hid hm.1
        have HM2 := Lib.hid hm.2
        clear hr hm hno hv1 hv2
        go_wp2_with fail
        refine (C1.out _ HB1.out).mono ?_
        rintro e w2 ⟨rfl, g2⟩
        obtain ⟨_, _, _, q3⟩ := KC.out w2 g2
        have hb2 := bstep9 HB1.out HB1.out.size g2
        clear k2
        go_wp2_with fail
        refine (C2.out _ hb2).mono ?_
        rintro e w3 ⟨rfl, g3⟩
        have hb3 := bstep9 hb2 hb2.size g3
        have g13 := bstep9 g2 g2.size g3
        have gb := (Below.refl w3.heap.size w3).alloc (Nat.le_refl _) (.cells #[.int .i64 0, .int .i64 0] 25)
        have hb4 := bstep9 hb3 hb3.size gb
        have g14 := bstep9 g13 g13.size gb
        have HR4 := Lib.hid ((HR1.out.below g13).below gb)
        obtain ⟨u, hv⟩ := HE.out _ hb4
        obtain ⟨lB, ⟨a0, a1, a2, a3, a4⟩, fB⟩ := HR4.out
        clear g2 g3 hb2 q3 g13 gb g14 hb3
        go_wp2_with fail
        go_region
        go_wp2_with fail
        refine bodyPost_ret (v := .tuple #[.agg #[.string ⟨#[]⟩, .string ⟨#[]⟩, .int .i64 0, .int .i64 0, .int .i64 0], .iface 135 (.agg #[.int .i64 6, .iface 257 u])]) ?_ rfl ⟨⟨_, by rw [HM1.out]; rfl, by rw [HM2.out]; exact .inr ⟨by decide, u, rfl⟩⟩, (setR5 hb4 (Nat.le_refl _) _ _ _ _ _).drew⟩
        simp [results, Tryz.results50, go_sem, a0, a1, a2, a3, a4]
      · have CK := Lib.hid (fun W hW => CC.out ⟨a, b, v, x, y⟩ W hW sa sb)
        have HSM := Lib.hid (fun (n : Nm) h1 h2 => rd_same (n := n) HP.out hv1 hv2 hd hxy h1 h2)
        have HNT : Hid (ntB ⟨a, b, v, x, y⟩ = s) := Lib.hid (by
          rw [nt_join HP.out]; unfold ntB; dsimp only; rw [hv1, hd])
        clear hr hv1 hv2 hd hxy
        go_wp2_with fail
        refine (C1.out _ HB1.out).mono ?_
        rintro e w2 ⟨rfl, g2⟩
        obtain ⟨_, _, _, q3⟩ := KC.out w2 g2
        have hb2 := bstep9 HB1.out HB1.out.size g2
        clear k2
        go_wp2_with fail
        refine (C2.out _ hb2).mono ?_
        rintro e w3 ⟨rfl, g3⟩
        have hb3 := bstep9 hb2 hb2.size g3
        have g13 := bstep9 g2 g2.size g3
        have gb := (Below.refl w3.heap.size w3).alloc (Nat.le_refl _) (.cells #[.int .i64 x, .int .i64 y] 25)
        have hb4 := bstep9 hb3 hb3.size gb
        have g14 := bstep9 g13 g13.size gb
        have HR4 := Lib.hid ((HR1.out.below g13).below gb)
        obtain ⟨q0, q1, _, _⟩ := KC.out w3 g13
        obtain ⟨r0, r1, _, _⟩ := KC.out _ g14
        have HB4 := Lib.hid hb4
        clear g2 g3 hb2 q3 g13 gb hb3 hb4
        have s0 : (w3.alloc (.cells #[.int .i64 x, .int .i64 y] 25)).cell? ⟨w3.heap.size, 0, none⟩ = some (.int .i64 x) := World.cell?_alloc_at _ _ _ _ rfl
        have s1 : (w3.alloc (.cells #[.int .i64 x, .int .i64 y] 25)).cell? ⟨w3.heap.size, 1, none⟩ = some (.int .i64 y) := World.cell?_alloc_at _ _ _ _ rfl
        have gz := (Below.refl (w3.alloc (.cells #[.int .i64 x, .int .i64 y] 25)).heap.size (w3.alloc (.cells #[.int .i64 x, .int .i64 y] 25))).alloc (Nat.le_refl _) (.cells #[.string ⟨#[]⟩, .string ⟨#[]⟩, .int .i64 0, .int .i64 0, .int .i64 0] 27)
        obtain ⟨p0, p1, _, _⟩ := KC.out _ (bstep9 g14 g14.size gz)
        have t0 := (gz.cell (p := ⟨w3.heap.size, 0, none⟩) (by simp)).trans s0
        have t1 := (gz.cell (p := ⟨w3.heap.size, 1, none⟩) (by simp)).trans s1
        have G14 := Lib.hid g14
        clear gz g14
        go_wp2_with fail
        go_region
        obtain ⟨W6, hW6⟩ : ∃ W6, W6 = ((w3.alloc (.cells #[.int .i64 x, .int .i64 y] 25)).alloc (.cells #[.string a, .string b, .int .i64 v, .int .i64 x, .int .i64 y] 27)).drew := ⟨_, rfl⟩
        rw [← hW6]
        have hb6 : Below w.heap.size w W6 := by rw [hW6]; exact (HB4.out.alloc HB4.out.size _).drew
        have g6 : Below (w3.alloc (.cells #[.int .i64 x, .int .i64 y] 25)).heap.size (w3.alloc (.cells #[.int .i64 x, .int .i64 y] 25)) W6 := by rw [hW6]; exact ((Below.refl _ _).alloc (Nat.le_refl _) _).drew
        have KM : NmCell W6 (w3.heap.size + 1) 0 ⟨a, b, v, x, y⟩ := by
          have h1 := nm_new (w3.alloc (.cells #[.int .i64 x, .int .i64 y] 25)) ⟨a, b, v, x, y⟩ 27
          rw [World.size_alloc] at h1
          rw [hW6]; exact h1
        have lM : w3.heap.size + 1 < W6.heap.size := by rw [hW6]; show _ < (World.alloc _ _).heap.size; simp
        have HR6 := Lib.hid (HR4.out.below g6)
        have HKM := Lib.hid KM
        have HB6 := Lib.hid hb6
        obtain ⟨m0, m1, m2, m3, m4⟩ : W6.cell? ⟨w3.heap.size + 1, 0, none⟩ = some (.string a) ∧ W6.cell? ⟨w3.heap.size + 1, 1, none⟩ = some (.string b) ∧ W6.cell? ⟨w3.heap.size + 1, 2, none⟩ = some (.int .i64 v) ∧ W6.cell? ⟨w3.heap.size + 1, 3, none⟩ = some (.int .i64 x) ∧ W6.cell? ⟨w3.heap.size + 1, 4, none⟩ = some (.int .i64 y) := KM
        clear hW6 hb6 g6 s0 s1 t0 t1 p0 p1 r0 r1 q0 q1
        go_wp2_with fail
        refine (CK.out W6 HB6.out).mono ?_
        rintro e w7 ⟨⟨r, rfl, hrv⟩, g7⟩
        have hb7 := bstep9 HB6.out HB6.out.size g7
        have KM7 := HKM.out.below g7 lM
        obtain ⟨n0, n1, n2, n3, n4⟩ : w7.cell? ⟨w3.heap.size + 1, 0, none⟩ = some (.string a) ∧ w7.cell? ⟨w3.heap.size + 1, 1, none⟩ = some (.string b) ∧ w7.cell? ⟨w3.heap.size + 1, 2, none⟩ = some (.int .i64 v) ∧ w7.cell? ⟨w3.heap.size + 1, 3, none⟩ = some (.int .i64 x) ∧ w7.cell? ⟨w3.heap.size + 1, 4, none⟩ = some (.int .i64 y) := KM7
        obtain ⟨lB, ⟨a0, a1, a2, a3, a4⟩, fB⟩ := HR6.out.below g7
        clear m0 m1 m2 m3 m4 g7
        rcases hrv with ⟨hnb, rfl⟩ | ⟨hnb, u, rfl⟩
        · have hm := rd_hit hnb HNT.out
          have HM1 := Lib.hid hm.1
          have HM2 := Lib.hid hm.2
          clear hm hnb
          go_wp2_with fail
          refine bodyPost_ret (v := .tuple #[.agg #[.string a, .string b, .int .i64 v, .int .i64 x, .int .i64 y], .nilIface]) ?_ rfl ⟨⟨_, by rw [HM1.out], by rw [HM2.out]; exact .inl ⟨rfl, rfl⟩⟩, setR5 hb7 (Nat.le_refl _) _ _ _ _ _⟩
          simp [results, Tryz.results50, go_sem, a0, a1, a2, a3, a4]
        · have hm := rd_miss (s := s) (fun n h1 h2 => by
            rw [HSM.out n h1 h2, hnb] at h1; cases h1)
          have HM1 := Lib.hid hm.1
          have HM2 := Lib.hid hm.2
          clear hm hnb
          go_wp2_with fail
          refine bodyPost_ret (v := .tuple #[.agg #[.string ⟨#[]⟩, .string ⟨#[]⟩, .int .i64 0, .int .i64 0, .int .i64 0], .iface 135 (.agg #[.int .i64 6, .iface 257 u])]) ?_ rfl ⟨⟨_, by rw [HM1.out]; rfl, by rw [HM2.out]; exact .inr ⟨by decide, u, rfl⟩⟩, setR5 hb7 (Nat.le_refl _) _ _ _ _ _⟩
          simp [results, Tryz.results50, go_sem, a0, a1, a2, a3, a4]

end Go.Proofs.YthlilfdndpnbkaaGreatDoor
