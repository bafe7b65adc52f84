/-
  The contract of AddPlace of the program: the walk.
-/
import Derived.Test.YtkbkgbhnfopgnaaDoorPlAdI
namespace Go.Proofs.YtkbkgbhnfopgnaaDoor
set_option linter.unusedVariables false
open Go.RowKit Go.Lib

theorem OwnP.none11 (w : World) (lo hi : Nat) : OwnP w lo hi none 0 0 [] := ⟨World.ownsRow_nil _ _ _ _, fun k hk => (by cases hk), fun e he => (by cases he), fun i j x y _ hi => (by simp at hi)⟩
theorem BxQ.keep2 {A0 W W' : World} {b : Nat} {v0 v1 v2 v3 v4 : Value} (h : BxQ A0 b v0 v1 v2 v3 v4 W) (hb : Below A0.heap.size W W') : BxQ A0 b v0 v1 v2 v3 v4 W' := by
  obtain ⟨h0, h1, h2, h3, h4, h5, h6⟩ := h
  exact ⟨(hb.cell (p := ⟨b, 0, none⟩) h6).trans h0, (hb.cell (p := ⟨b, 1, none⟩) h6).trans h1, (hb.cell (p := ⟨b, 2, none⟩) h6).trans h2, (hb.cell (p := ⟨b, 3, none⟩) h6).trans h3, (hb.cell (p := ⟨b, 4, none⟩) h6).trans h4, h5.trans hb, h6⟩
/-- What Insert wants of the clone and of the box with the place. -/
def InsIn (lo n : Nat) (es : List PE) (q : PE) (W : World) (C : Option Addr) (cc vb : Nat) : Prop :=
  lo ≤ W.heap.size ∧ W.ownsRow lo 32 5 (.slice C n cc) n (plV es) ∧ Bx W vb (encE11 q) ∧ W.heap[vb]? = some (.cells (encE11 q).toArray 32 (0, 0)) ∧ (Value.slice C n cc).ownBlock ≠ some vb
theorem insA {lo n cc : Nat} {es : List PE} {q : PE} {C : Option Addr} {W wc : World} (hl : lo ≤ W.heap.size) (hown : wc.ownsRow W.heap.size 32 5 (.slice C n cc) n (plV es)) (hb : Below W.heap.size W wc) :
    InsIn lo n es q (wc.alloc (.cells (encE11 q).toArray 32)) C cc wc.heap.size := by
  refine ⟨by have := hb.size; simp; omega, (hown.alloc _).mono hl, by have := Bx.new wc (encE11 q).toArray 32; simpa using this, by show (wc.heap.push _)[_]? = _; simp, fun e => ?_⟩
  have := hown.lt _ e
  omega
theorem insB {lo n cc : Nat} {es : List PE} {q : PE} {C : Option Addr} {W wc : World} (hl : lo ≤ W.heap.size) (hown : wc.ownsRow (W.alloc (.cells (encE11 q).toArray 32)).drew.heap.size 32 5 (.slice C n cc) n (plV es)) (hb : Below (W.alloc (.cells (encE11 q).toArray 32)).drew.heap.size (W.alloc (.cells (encE11 q).toArray 32)).drew wc) :
    InsIn lo n es q wc C cc W.heap.size := by
  have hs : (W.alloc (.cells (encE11 q).toArray 32)).drew.heap.size = W.heap.size + 1 := by show (W.alloc _).heap.size = _; simp
  have h1 := hb.size
  have h2 : W.heap.size < (W.alloc (.cells (encE11 q).toArray 32)).drew.heap.size := by omega
  have h3 : Bx (W.alloc (.cells (encE11 q).toArray 32)).drew W.heap.size (encE11 q) := by have := (Bx.new W (encE11 q).toArray 32).drew; simpa using this
  refine ⟨by omega, hown.mono (by omega), h3.next hb, by rw [hb.block _ h2]; show (W.heap.push _)[_]? = _; simp, fun e => ?_⟩
  have := hown.lt _ e
  omega
set_option maxHeartbeats 4000000 in
set_option maxRecDepth 100000 in
theorem cAdd_impl (A Ap : Option Addr) (n c d : Nat) (ps : List Pl) (p : Pl) (w : World) (hb : n ≤ 1048576) (hz : Sz11 ps) (hzp : p.c.size ≤ 1048576 ∧ p.ns.length ≤ 1048576 ∧ ∀ e ∈ p.ns, e.t.size ≤ 1048576 ∧ e.l.size ≤ 1048576) (h : PlAt w w.heap.size A n ps) (hn : NmAt w w.heap.size Ap p.ns.length p.ns) (hd : p.ns.length ≤ d) (hsh : w.ShapedOpen Tryd.prog) (her : Er6 w) :
    Calls Tryd.prog 28 #[.slice A n c, plv11 p Ap d] w (OutPl (adZ ps p) (adC ps p) w) := by
  obtain ⟨W0, hW0⟩ : ∃ W0 : World, W0 = w.alloc (.cells #[.string p.c, .int .i64 p.k, .int .i64 p.f, .int .i64 p.u, .slice Ap p.ns.length d] 32) := ⟨_, rfl⟩
  have hB0 : Below w.heap.size w W0 := by rw [hW0]; exact below_alloc11 _ _
  have HX : Hid (Bx W0 w.heap.size [.string p.c, .int .i64 p.k, .int .i64 p.f, .int .i64 p.u, .slice Ap p.ns.length d]) := Lib.hid (by rw [hW0]; exact Bx.new w _ _)
  have CR := Lib.hid (cIsReg_impl A n c ps W0 hb hz (h.grow hB0) (shaped_below hsh hB0) (her.below hB0))
  have CP := Lib.hid (fun W (hW : Below w.heap.size w W) => cIsPl_impl p Ap d W (by have := hzp.1; unfold maxLen; omega) hzp.2.1 hzp.2.2 (hn.grow hW) hd (shaped_below hsh hW) (her.below hW))
  have CS : Hid (regB ps = true → ∀ W, Below w.heap.size w W → Calls Tryd.prog 47 #[.slice A n c, .string p.c] W fun e w' => e = .returned (.tuple #[.int .i64 (atP ps p.c : Nat), .bool (thereB ps p.c)]) ∧ Below W.heap.size W w') := Lib.hid (fun hr W hW => cSearch A n c ps p.c W hb (grows_of (reg_good hr)) (h.grow hW))
  have H := Lib.hid h
  have HN := Lib.hid h.1
  have HZ := Lib.hid hz
  have HZP := Lib.hid hzp
  have HNM := Lib.hid hn
  have HD := Lib.hid hd
  have HB0 := Lib.hid hB0
  have HW0 := Lib.hid hW0
  clear h hn hd hz hzp hsh her hB0 hW0
  rcases ad_cases ps p with ⟨hq, e1⟩ | ⟨hq, e1, e2⟩ | ⟨hq, e1, e2, e3⟩ | ⟨hq, e1, e2, e3, e4⟩ | ⟨hq, e1, e2, e3, e4⟩
  · rw [adZ_no (by rw [hq]; decide), hq]
    rw [e1] at CR
    clear hq e1 CS CP
    go_enter Tryd.func28, Tryd.ntmps28
    go_wp2_with fail
    rw [← HW0.out]
    refine CR.out.mono ?_
    rintro e w1 ⟨rfl, g1⟩
    have hbt := bstep9 HB0.out HB0.out.size g1
    go_wp2_with fail
    go_ret2
    exact ⟨none, 0, 0, [], rfl, rfl, OwnP.none11 _ _ _, hbt⟩
  · rw [adZ_no (by rw [hq]; decide), hq]
    rw [e1] at CR
    rw [e2] at CP
    clear hq e1 e2 CS
    go_enter Tryd.func28, Tryd.ntmps28
    go_wp2_with fail
    rw [← HW0.out]
    refine CR.out.mono ?_
    rintro e w1 ⟨rfl, g1⟩
    have hbt := bstep9 HB0.out HB0.out.size g1
    obtain ⟨x0, x1, x2, x3, x4, _⟩ := (HX.out.next g1).five
    go_wp2_with fail
    refine (CP.out _ hbt).mono ?_
    rintro e w2 ⟨rfl, g2⟩
    have hb2 := bstep9 hbt hbt.size g2
    go_wp2_with fail
    go_ret2
    exact ⟨none, 0, 0, [], rfl, rfl, OwnP.none11 _ _ _, hb2⟩
  · rw [adZ_no (by rw [hq]; decide), hq]
    have CS2 := Lib.hid (CS.out e1)
    rw [e3] at CS2
    rw [e1] at CR
    rw [e2] at CP
    obtain ⟨a, ha⟩ : ∃ a, a = atP ps p.c := ⟨_, rfl⟩
    rw [← ha] at CS2
    clear hq e1 e2 e3 CS ha
    go_enter Tryd.func28, Tryd.ntmps28
    go_wp2_with fail
    rw [← HW0.out]
    refine CR.out.mono ?_
    rintro e w1 ⟨rfl, g1⟩
    have hbt := bstep9 HB0.out HB0.out.size g1
    obtain ⟨x0, x1, x2, x3, x4, _⟩ := (HX.out.next g1).five
    go_wp2_with fail
    refine (CP.out _ hbt).mono ?_
    rintro e w2 ⟨rfl, g2⟩
    have hb2 := bstep9 hbt hbt.size g2
    obtain ⟨y0, y1, y2, y3, y4, _⟩ := ((HX.out.next g1).next g2).five
    have CS3 := Lib.hid (CS2.out _ hb2)
    go_wp2_with fail
    refine CS3.out.mono ?_
    rintro e w3 ⟨rfl, g3⟩
    have hb3 := bstep9 hb2 hb2.size g3
    go_wp2_with fail
    go_ret2
    exact ⟨none, 0, 0, [], rfl, rfl, OwnP.none11 _ _ _, hb3⟩
  · rw [adZ_no (by rw [hq]; decide), hq]
    have CS2 := Lib.hid (CS.out e1)
    rw [e3] at CS2
    rw [e1] at CR
    rw [e2] at CP
    obtain ⟨a, ha⟩ : ∃ a, a = atP ps p.c := ⟨_, rfl⟩
    rw [← ha] at CS2
    obtain rfl : n = 10 := by have := HN.out; omega
    clear hq e1 e2 e3 e4 CS ha
    go_enter Tryd.func28, Tryd.ntmps28
    go_wp2_with fail
    rw [← HW0.out]
    refine CR.out.mono ?_
    rintro e w1 ⟨rfl, g1⟩
    have hbt := bstep9 HB0.out HB0.out.size g1
    obtain ⟨x0, x1, x2, x3, x4, _⟩ := (HX.out.next g1).five
    go_wp2_with fail
    refine (CP.out _ hbt).mono ?_
    rintro e w2 ⟨rfl, g2⟩
    have hb2 := bstep9 hbt hbt.size g2
    obtain ⟨y0, y1, y2, y3, y4, _⟩ := ((HX.out.next g1).next g2).five
    have CS3 := Lib.hid (CS2.out _ hb2)
    go_wp2_with fail
    refine CS3.out.mono ?_
    rintro e w3 ⟨rfl, g3⟩
    have hb3 := bstep9 hb2 hb2.size g3
    go_wp2_with fail
    go_ret2
    exact ⟨none, 0, 0, [], rfl, rfl, OwnP.none11 _ _ _, hb3⟩
  · rw [adZ_ok hq, hq]
    have HRG := Lib.hid (ad_reg hq)
    have hn10 : n ≤ 10 := by have := (reg_of e1).1; have := HN.out; omega
    have hn10' : ¬ (n : Int) = 10 := by have := HN.out; omega
    have CS2 := Lib.hid (CS.out e1)
    rw [e3] at CS2
    rw [e1] at CR
    rw [e2] at CP
    have hale := atP_le ps p.c
    obtain ⟨a, ha⟩ : ∃ a, a = atP ps p.c := ⟨_, rfl⟩
    have HINS : Hid (insP ps p = ps.take a ++ [p] ++ ps.drop a) := Lib.hid (by rw [ha]; rfl)
    rw [← ha] at CS2 hale
    have hale2 : a ≤ n := by have := HN.out; omega
    have hale3 : (a : Int) ≤ (n : Int) := by omega
    obtain ⟨zs, hzs⟩ : ∃ zs, zs = insP ps p := ⟨_, rfl⟩
    have HZS := Lib.hid hzs
    rw [← hzs] at HRG HINS ⊢
    have HSZ : Hid (Sz11 zs) := Lib.hid (by rw [HZS.out, ← adZ_ok hq]; exact adZ_sz HZ.out HZP.out)
    clear hq e1 e2 e3 e4 CS ha hale hzs
    go_enter Tryd.func28, Tryd.ntmps28
    go_wp2_with fail
    rw [← HW0.out]
    refine CR.out.mono ?_
    rintro e w1 ⟨rfl, g1⟩
    have hbt := bstep9 HB0.out HB0.out.size g1
    obtain ⟨x0, x1, x2, x3, x4, _⟩ := (HX.out.next g1).five
    go_wp2_with fail
    refine (CP.out _ hbt).mono ?_
    rintro e w2 ⟨rfl, g2⟩
    have hb2 := bstep9 hbt hbt.size g2
    obtain ⟨y0, y1, y2, y3, y4, _⟩ := ((HX.out.next g1).next g2).five
    have CS3 := Lib.hid (CS2.out _ hb2)
    go_wp2_with fail
    refine CS3.out.mono ?_
    rintro e w3 ⟨rfl, g3⟩
    have hb3 := bstep9 hb2 hb2.size g3
    have HX3 := Lib.hid (((HX.out.next g1).next g2).next g3)
    have HB3 := Lib.hid hb3
    have HPL := Lib.hid (H.out.grow hb3)
    obtain ⟨es, hes, hps⟩ := ps_of_pl HPL.out
    have HES := Lib.hid hes
    have HPS := Lib.hid hps
    have HAB : Hid (∀ x, A = some x → 0 < n → x.block < w3.heap.size) := Lib.hid (fun x hx hp => by
      obtain ⟨b, o, e, hb, _⟩ := HPL.out.2 hp
      rw [hx] at e; injection e with e; rw [e]; exact hb)
    have HNQ := Lib.hid (HNM.out.grow hb3)
    have CCL : Hid (∀ W, Below w3.heap.size w3 W → Calls Tryd.prog 59 #[.slice A n c] W (ClonePl es n W)) := Lib.hid (fun W hW => cClonePl A n c es W hb ⟨HPS.out.len, (HPS.out.below hW (Nat.le_refl _) HAB.out).cells, HPS.out.none, fun e he => ⟨((HPS.out.names e he).1).grow hW, (HPS.out.names e he).2⟩⟩ (fun x hx hp => Nat.lt_of_lt_of_le (HAB.out x hx hp) hW.size))
    have CIN : Hid (∀ W C cc vb, InsIn w3.heap.size n es ⟨p, Ap, d⟩ W C cc vb → Calls Tryd.prog 58 #[.slice C n cc, .int .i64 (a : Int), .slice (some ⟨vb, 0, none⟩) 1 1] W (InsPl w3.heap.size n (plV (es.take a ++ [⟨p, Ap, d⟩] ++ es.drop a)) W)) := Lib.hid (fun W C cc vb h => cInsPl w3.heap.size n cc a vb C es ⟨p, Ap, d⟩ W (by omega) hale2 h.1 h.2.1 h.2.2.1 h.2.2.2.1 h.2.2.2.2)
    have CCP : Hid (∀ W C cc, Below w3.heap.size w3 W → W.ownsRow w3.heap.size 32 5 (.slice C (n + 1) cc) (n + 1) (plV (es.take a ++ [⟨p, Ap, d⟩] ++ es.drop a)) → Calls Tryd.prog 57 #[.slice C (n + 1) cc] W (CopyOut zs (n + 1) W)) := Lib.hid (fun W C cc hW ho => cCopyPl C (n + 1) cc zs W (by omega) HSZ.out (by
      rw [HINS.out, ← HES.out, ← insP_pls es ⟨p, Ap, d⟩ a]
      exact pl_of_row ho (fun e he => by
        rw [List.mem_append, List.mem_append, List.mem_singleton] at he
        rcases he with (he | rfl) | he
        · exact ⟨((HPS.out.names e (List.mem_of_mem_take he)).1).grow hW, (HPS.out.names e (List.mem_of_mem_take he)).2⟩
        · exact ⟨HNQ.out.grow hW, HD.out⟩
        · exact ⟨((HPS.out.names e (List.mem_of_mem_drop he)).1).grow hW, (HPS.out.names e (List.mem_of_mem_drop he)).2⟩)))
    have hstart := BxQ.start HX3.out
    have HWA : Hid (Below w3.heap.size w3 w3.drew) := Lib.hid (Below.refl _ _).drew
    have HWB : Hid (Below w3.heap.size w3 (w3.alloc (.cells (encE11 ⟨p, Ap, d⟩).toArray 32)).drew) := Lib.hid (below_alloc11 _ _).drew
    clear hes hps g1 g2 g3 x0 x1 x2 x3 x4 y0 y1 y2 y3 y4 hbt hb2 hb3 CR CP CS2 CS3
    go_wp2_with fail
    go_cut [4, 5] (fun v z wx => z = .int .i64 0 ∧ (∃ C cc es', v = .slice C (n + 1) cc ∧ plsOf es' = zs ∧ OwnP wx w3.heap.size wx.heap.size C (n + 1) cc es') ∧ Below w3.heap.size w3 wx)
    case first =>
      go_region_held3 (fun W => W.cell? ⟨w.heap.size, 0, none⟩ = some (.string p.c) ∧ W.cell? ⟨w.heap.size, 1, none⟩ = some (.int .i64 p.k) ∧ W.cell? ⟨w.heap.size, 2, none⟩ = some (.int .i64 p.f) ∧ W.cell? ⟨w.heap.size, 3, none⟩ = some (.int .i64 p.u) ∧ W.cell? ⟨w.heap.size, 4, none⟩ = some (.slice Ap p.ns.length d) ∧ Below w3.heap.size w3 W ∧ w.heap.size < w3.heap.size)
        (first | (exact hstart) | (exact BxQ.keep (A0 := w3) (by assumption) hbk) | (exact BxQ.keep2 (A0 := w3) (by assumption) hbd) | (exact BxQ.keep (A0 := w3) (by assumption) hbe) | (exact BxQ.keep (A0 := w3) (by assumption) (below_alloc11 _ _)) | assumption)
        (first
          | (go_at_call 59; refine (CCL.out w3.drew HWA.out).mono ?_; rintro e wc ⟨C, cc, rfl, hcc, hown, hbk⟩; have hia := insA (q := ⟨p, Ap, d⟩) (W := w3.drew) (Nat.le_refl _) hown hbk)
          | (go_at_call 59; refine (CCL.out (w3.alloc (.cells (encE11 ⟨p, Ap, d⟩).toArray 32)).drew HWB.out).mono ?_; rintro e wc ⟨C, cc, rfl, hcc, hown, hbk⟩; have hib := insB (q := ⟨p, Ap, d⟩) (W := w3) (Nat.le_refl _) hown hbk)
          | (go_at_call 58; refine (CIN.out _ C cc _ hib).mono ?_; rintro e wd ⟨D, cd, rfl, hod, hbd⟩)
          | (go_at_call 58; refine (CIN.out _ C cc _ hia).mono ?_; rintro e wd ⟨D, cd, rfl, hod, hbd⟩)
          | (go_at_call 57; have hwd : w3.heap.size ≤ wd.heap.size := (BxQ.get (A0 := w3) (show BxQ w3 w.heap.size (.string p.c) (.int .i64 p.k) (.int .i64 p.f) (.int .i64 p.u) (.slice Ap p.ns.length d) _ by assumption)).size; refine (CCP.out _ D cd (BxQ.get (A0 := w3) (show BxQ w3 w.heap.size (.string p.c) (.int .i64 p.k) (.int .i64 p.f) (.int .i64 p.u) (.slice Ap p.ns.length d) _ by assumption)) hod).mono ?_; rintro e we ⟨E, ce, es2, rfl, hes2, how, hbe⟩))
      all_goals (go_wp2_with fail; go_meet)
      all_goals exact ⟨rfl, ⟨E, ce, es2, rfl, hes2, how.down hwd⟩, (BxQ.get (A0 := w3) (show BxQ w3 w.heap.size (.string p.c) (.int .i64 p.k) (.int .i64 p.f) (.int .i64 p.u) (.slice Ap p.ns.length d) _ by assumption))⟩
    case rest =>
      obtain ⟨rfl, ⟨C, cc, es', rfl, hes', how⟩, hb4⟩ := hcut
      obtain ⟨w4, rfl⟩ : ∃ w4 : World, w4 = wc := ⟨_, rfl⟩
      go_wp2_with fail
      go_ret2
      exact ⟨C, n + 1, cc, es', rfl, hes', how.down HB3.out.size, bstep9 HB3.out HB3.out.size hb4⟩
end Go.Proofs.YtkbkgbhnfopgnaaDoor
