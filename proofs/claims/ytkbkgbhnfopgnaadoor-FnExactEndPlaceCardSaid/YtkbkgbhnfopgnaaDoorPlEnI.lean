/-
  The contract of EndPlace of the program.
-/
import Derived.Test.YtkbkgbhnfopgnaaDoorPlCut
import Derived.Deep.RegionHeld3
namespace Go.Proofs.YtkbkgbhnfopgnaaDoor
set_option linter.unusedVariables false
open Go.RowKit Go.Lib

theorem OwnP.none13 (w : World) (lo hi : Nat) : OwnP w lo hi none 0 0 [] := ⟨World.ownsRow_nil _ _ _ _, fun k hk => (by cases hk), fun e he => (by cases he), fun i j x y _ hi => (by simp at hi)⟩
theorem yr_of {y : Int} (h : yrB y = true) : -3000 ≤ y ∧ y ≤ 3000 := by unfold yrB at h; simpa using h
/-- What is kept of three cells through a region that draws its order. -/
def EnQ (A0 : World) (b g a : Nat) (v0 v1 v2 : Value) (W : World) : Prop :=
  W.cell? ⟨b, 0, none⟩ = some v0 ∧ W.cell? ⟨g, a * 5 + 2, none⟩ = some v1 ∧ W.cell? ⟨g, a * 5 + 3, none⟩ = some v2 ∧ Below A0.heap.size A0 W ∧ b < A0.heap.size ∧ A0.heap.size ≤ g ∧ g < W.heap.size
theorem EnQ.keep {A0 W W' : World} {b g a : Nat} {v0 v1 v2 : Value} (h : EnQ A0 b g a v0 v1 v2 W) (hb : Below W.heap.size W W') : EnQ A0 b g a v0 v1 v2 W' := by
  obtain ⟨h0, h1, h2, h5, h6, h7, h8⟩ := h
  exact ⟨(hb.cell (p := ⟨b, 0, none⟩) (Nat.lt_of_lt_of_le h6 h5.size)).trans h0, (hb.cell (p := ⟨g, a * 5 + 2, none⟩) h8).trans h1, (hb.cell (p := ⟨g, a * 5 + 3, none⟩) h8).trans h2, bstep9 h5 h5.size hb, h6, h7, Nat.lt_of_lt_of_le h8 hb.size⟩
theorem EnQ.store {A0 W : World} {b g a : Nat} {v0 v1 v2 : Value} (h : EnQ A0 b g a v0 v1 v2 W) (u : Value) : EnQ A0 b g a v0 v1 v2 (W.setCell ⟨g, a * 5 + 4, none⟩ u) := by
  obtain ⟨h0, h1, h2, h5, h6, h7, h8⟩ := h
  refine ⟨?_, ?_, ?_, h5.setCell (p := ⟨g, a * 5 + 4, none⟩) h7 u, h6, h7, by simpa using h8⟩
  · rw [World.cell?_setCell_other _ _ _ _ (by intro e; injection e; omega)]; exact h0
  · rw [World.cell?_setCell_other _ _ _ _ (by intro e; injection e; omega)]; exact h1
  · rw [World.cell?_setCell_other _ _ _ _ (by intro e; injection e; omega)]; exact h2
theorem EnQ.get {A0 W : World} {b g a : Nat} {v0 v1 v2 : Value} (h : EnQ A0 b g a v0 v1 v2 W) : Below A0.heap.size A0 W := h.2.2.2.1
theorem plsOf_set (es : List PE) (k : Nat) (e : PE) : plsOf (es.set k e) = (plsOf es).set k e.p := by unfold plsOf; rw [List.map_set]
set_option maxHeartbeats 4000000 in
set_option maxRecDepth 100000 in
theorem cEnd_impl (A : Option Addr) (n c : Nat) (ps : List Pl) (s : ByteArray) (y : Int) (w : World) (hb : n ≤ 1048576) (hz : Sz11 ps) (hs : s.size ≤ maxLen) (h : PlAt w w.heap.size A n ps) (hsh : w.ShapedOpen Tryd.prog) (her : Er6 w) :
    Calls Tryd.prog 32 #[.slice A n c, .string s, .int .i64 y] w (OutPl (enZ ps s y) (enC ps s y) w) := by
  have CF := Lib.hid (cFindIn A n c ps s y w hb hz hs h hsh her)
  have CCP : Hid (∀ W, Below w.heap.size w W → Calls Tryd.prog 57 #[.slice A n c] W (CopyOut ps n W)) := Lib.hid (fun W hW => cCopyPl A n c ps W hb hz (h.grow hW))
  have H := Lib.hid h
  have HN := Lib.hid h.1
  have HZ := Lib.hid hz
  clear h hsh her hs hz
  rcases en_cases ps s y with ⟨h1, h2⟩ | ⟨p, h1, hr, hy, hp, _, hpb, _, hex, h2⟩ | ⟨p, h1, hr, hy, hp, h0, hpb, _, hex, h2⟩
  · rw [enZ_no (by rw [h2]; exact h1), h2]
    obtain ⟨q, hq⟩ : ∃ q, q = pcC ps s y := ⟨_, rfl⟩
    obtain ⟨z, hz⟩ : ∃ z, z = plZ ps s y := ⟨_, rfl⟩
    rw [← hq, ← hz] at CF
    rw [← hq] at h1 ⊢
    have hq0 : (q != 0) = true := by simpa using h1
    clear h1 h2 hq hz CCP
    go_enter Tryd.func32, Tryd.ntmps32
    go_wp2_with fail
    refine CF.out.mono ?_
    rintro e w1 ⟨rfl, g1⟩
    go_wp2_with fail
    go_ret2
    exact ⟨none, 0, 0, [], rfl, rfl, OwnP.none13 _ _ _, g1⟩
  · rw [enZ_no (by rw [h2]; decide), h2]
    rw [plZ_ok h1, h1] at CF
    obtain ⟨hy1, hy2⟩ := yr_of hy
    obtain ⟨a, ha⟩ : ∃ a, a = atP ps s := ⟨_, rfl⟩
    rw [← ha] at CF hp
    have HEX := Lib.hid (fun A1 d1 W => cExists p A1 d1 (y - 1) W)
    rw [hex] at HEX
    have hal : a < n := by have := (List.getElem?_eq_some_iff.1 hp).1; have := HN.out; omega
    have u1 : (0 : Int) ≤ (a : Int) := Int.natCast_nonneg _
    have u2 : (a : Int) < (n : Int) := by omega
    have HP := Lib.hid hp
    clear h1 h2 ha hex hpb hr CCP hp
    go_enter Tryd.func32, Tryd.ntmps32
    go_wp2_with fail
    refine CF.out.mono ?_
    rintro e w1 ⟨rfl, g1⟩
    obtain ⟨b, o, rfl, hbl, A1, d1, c0, c1, c2, c3, c4, hnm, hd1⟩ := (H.out.below g1 (Nat.le_refl _)).row HP.out
    have CE := Lib.hid (cEntry p A1 d1 w1)
    unfold plv11 enA at CE
    have HB1 := Lib.hid g1
    clear hnm g1
    go_wp2_with fail
    refine CE.out.mono ?_
    rintro e w2 ⟨rfl, g2⟩
    have hb2 := bstep9 HB1.out HB1.out.size g2
    have hg3 : Below w2.heap.size w2 (w2.alloc (.cells #[.slice A1 p.ns.length d1, .string p.c, .int .i64 p.k, .int .i64 p.f, .int .i64 p.u] 70)) := below_alloc11 _ _
    have HB3 := Lib.hid (bstep9 hb2 hb2.size hg3)
    have CX := Lib.hid (HEX.out A1 d1 (w2.alloc (.cells #[.slice A1 p.ns.length d1, .string p.c, .int .i64 p.k, .int .i64 p.f, .int .i64 p.u] 70)))
    unfold enA at CX
    clear hg3 hb2 g2 c0 c1 c2 c3 c4
    go_wp2_with fail
    refine CX.out.mono ?_
    rintro e w4 ⟨rfl, g4⟩
    have hb4 := bstep9 HB3.out HB3.out.size g4
    go_wp2_with fail
    go_ret2
    exact ⟨none, 0, 0, [], rfl, rfl, OwnP.none13 _ _ _, hb4⟩
  · rw [enZ_ok h2, h2, h0]
    rw [plZ_ok h1, h1] at CF
    obtain ⟨hy1, hy2⟩ := yr_of hy
    have HMT : Hid (∀ x ∈ p.ns, max x.f p.f = x.f ∧ spB x.f (min x.u (y - 1)) = keepB (cutN (y - 1) x)) := Lib.hid (fun x hx => en_meet hpb hex hx)
    have HMI : Hid (min p.u (y - 1) = y - 1) := Lib.hid (en_min hex)
    obtain ⟨a, ha⟩ : ∃ a, a = atP ps s := ⟨_, rfl⟩
    rw [← ha] at CF hp ⊢
    have HEX := Lib.hid (fun A1 d1 W => cExists p A1 d1 (y - 1) W)
    rw [hex] at HEX
    have hal : a < n := by have := (List.getElem?_eq_some_iff.1 hp).1; have := HN.out; omega
    have u1 : (0 : Int) ≤ (a : Int) := Int.natCast_nonneg _
    have u2 : (a : Int) < (n : Int) := by omega
    have HP := Lib.hid hp
    have HPN : Hid (p.ns.length ≤ 1048576) := Lib.hid (HZ.out p (List.mem_of_getElem? hp)).2.1
    clear h1 h2 ha hex hpb hr hp h0
    go_enter Tryd.func32, Tryd.ntmps32
    go_wp2_with fail
    refine CF.out.mono ?_
    rintro e w1 ⟨rfl, g1⟩
    obtain ⟨b, o, rfl, hbl, A1, d1, c0, c1, c2, c3, c4, hnm, hd1⟩ := (H.out.below g1 (Nat.le_refl _)).row HP.out
    have CE := Lib.hid (cEntry p A1 d1 w1)
    unfold plv11 enA at CE
    have HB1 := Lib.hid g1
    have HNM1 := Lib.hid (hnm.more g1.size)
    clear hnm g1
    go_wp2_with fail
    refine CE.out.mono ?_
    rintro e w2 ⟨rfl, g2⟩
    have hb2 := bstep9 HB1.out HB1.out.size g2
    obtain ⟨V2, hV2⟩ : ∃ V2 : World, V2 = w2.alloc (.cells #[.slice A1 p.ns.length d1, .string p.c, .int .i64 p.k, .int .i64 p.f, .int .i64 p.u] 70) := ⟨_, rfl⟩
    have hg3 : Below w2.heap.size w2 V2 := by rw [hV2]; exact below_alloc11 _ _
    have HB3 := Lib.hid (bstep9 hb2 hb2.size hg3)
    have HXE : Hid (Bx V2 w2.heap.size [.slice A1 p.ns.length d1, .string p.c, .int .i64 p.k, .int .i64 p.f, .int .i64 p.u]) := Lib.hid (by rw [hV2]; exact Bx.new w2 _ _)
    have HNM3 := Lib.hid ((HNM1.out.grow g2).grow hg3)
    have CX := Lib.hid (HEX.out A1 d1 V2)
    unfold enA at CX
    have HV2 := Lib.hid hV2
    clear hg3 hb2 g2 c0 c1 c2 c3 c4 hV2
    go_wp2_with fail
    rw [← HV2.out]
    refine CX.out.mono ?_
    rintro e w4 ⟨rfl, g4⟩
    have hb4 := bstep9 HB3.out HB3.out.size g4
    have CC4 := Lib.hid (CCP.out w4 hb4)
    have HB4 := Lib.hid hb4
    have HXE4 := Lib.hid (HXE.out.next g4)
    have HNM4 := Lib.hid (HNM3.out.grow g4)
    clear hb4 g4
    go_wp2_with fail
    refine CC4.out.mono ?_
    rintro e w5 ⟨C, cc, es, rfl, hes, how, g5⟩
    have HXE5 := Lib.hid (HXE4.out.next g5)
    have HNM5 := Lib.hid (HNM4.out.grow g5)
    have hl : es.length = n := how.len
    obtain ⟨g, cap, hv, hg0, hgl⟩ := World.ownsRow.form how.row (by omega)
    obtain ⟨rfl, rfl⟩ : C = some ⟨g, 0, none⟩ ∧ cc = cap := by injection hv with h1 h2 h3; exact ⟨h1, h3⟩
    obtain ⟨x, hx⟩ : ∃ x, es[a]? = some x := ⟨es[a]'(by omega), List.getElem?_eq_getElem _⟩
    have hxp : x.p = p := by
      have h1 := plsOf_at hx
      rw [hes, HP.out] at h1
      exact (Option.some.inj h1).symm
    have hl5 := how.row.1
    have q3 : w5.cell? ⟨g, a * 5 + 3, none⟩ = some (.int .i64 x.p.u) := (how.row.cellAt (a * 5 + 3) (by omega)).trans (plV_at _ a x hx).2.2.2.1
    have f3 := how.row.frozenAt (a * 5 + 3)
    have hst := how.row.stored (a * 5 + 3) (.int .i64 (y - 1))
    have hsu := plV_setU es a x ⟨⟨p.c, p.k, p.f, y - 1, p.ns⟩, x.a, x.d⟩ hx (by rw [hxp]) (by rw [hxp]) (by rw [hxp]) rfl rfl (by rw [hxp])
    have hrow := hst.1
    rw [hsu] at hrow
    have how6 := how.set (k := a) (e := ⟨⟨p.c, p.k, p.f, y - 1, p.ns⟩, x.a, x.d⟩) (fun hp => by have h1 := how.inner x (List.mem_of_getElem? hx) (by rw [hxp]; exact hp); rw [hxp] at h1; exact h1) (fun j z hj hz h1 h2 => how.apart j a z x hj hz hx h1 (by rw [hxp]; exact h2)) hrow hst.2
    have hb6 : Below w4.heap.size w4 (w5.setCell ⟨g, a * 5 + 3, none⟩ (.int .i64 (y - 1))) := g5.setCell (p := ⟨g, a * 5 + 3, none⟩) hg0 _
    obtain ⟨V6, hV6⟩ : ∃ V6 : World, V6 = w5.setCell ⟨g, a * 5 + 3, none⟩ (.int .i64 (y - 1)) := ⟨_, rfl⟩
    rw [← hV6] at how6 hb6
    have hls : V6.heap.size = w5.heap.size := by rw [hV6]; simp
    have hne : w2.heap.size ≠ g := by
      have h1 := HXE4.out.1
      omega
    have hx6 : Bx V6 w2.heap.size [.slice A1 p.ns.length d1, .string p.c, .int .i64 p.k, .int .i64 p.f, .int .i64 p.u] := by rw [hV6]; exact HXE5.out.other hne
    have hl6 := how6.row.1
    have hxa : (es.set a ⟨⟨p.c, p.k, p.f, y - 1, p.ns⟩, x.a, x.d⟩)[a]? = some ⟨⟨p.c, p.k, p.f, y - 1, p.ns⟩, x.a, x.d⟩ := List.getElem?_set_self (by omega)
    have k2 : V6.cell? ⟨g, a * 5 + 2, none⟩ = some (.int .i64 p.f) := (how6.row.cellAt (a * 5 + 2) (by omega)).trans (plV_at _ a _ hxa).2.2.1
    have k3 : V6.cell? ⟨g, a * 5 + 3, none⟩ = some (.int .i64 (y - 1)) := (how6.row.cellAt (a * 5 + 3) (by omega)).trans (plV_at _ a _ hxa).2.2.2.1
    have HST : Hid (EnQ w4 w2.heap.size g a (.slice A1 p.ns.length d1) (.int .i64 p.f) (.int .i64 (y - 1)) V6.drew) := Lib.hid ⟨(hx6.2 0 _ rfl).1, k2, k3, hb6.drew, HXE4.out.1, hg0, by show g < V6.heap.size; rw [hls]; exact hgl⟩
    have hstart := HST.out
    have hn6 : NmAt V6 V6.heap.size A1 p.ns.length p.ns := by
      have h1 := HNM4.out.below hb6 (Nat.le_refl _)
      exact h1.more hb6.size
    have CCT := Lib.hid (fun W (hW : Below V6.heap.size V6 W) => cCutTo A1 p.ns.length d1 p.ns p.f (y - 1) W HPN.out (hn6.grow hW) HMT.out)
    have HO6 := Lib.hid how6
    have HB6 := Lib.hid hb6
    have HXA := Lib.hid hxa
    have HAP : Hid (∀ (j : Nat) z, j ≠ a → es[j]? = some z → 0 < z.p.ns.length → z.a = x.a → 0 < p.ns.length → False) := Lib.hid (fun j z hj hz h1 h2 h3 => how.apart j a z x hj hz hx h1 (by rw [hxp]; exact h3) h2)
    have HL := Lib.hid hl
    have HES : Hid (∀ q, plsOf ((es.set a ⟨⟨p.c, p.k, p.f, y - 1, p.ns⟩, x.a, x.d⟩).set a q) = ps.set a q.p) := Lib.hid (fun q => by rw [List.set_set, plsOf_set, hes])
    have HV6 := Lib.hid hV6
    have HLS := Lib.hid hls
    have hal5 : a * 5 + 4 < n * 5 := by omega
    clear how6 hb6 hl6 hxa hx6 hn6 k2 k3 how hrow hst hsu hes hx hxp hV6 hls hl5 hv CC4 CX CE CF CCP g5
    go_wp2_with fail
    rw [← HV6.out]
    go_cut [11] (fun v wx => v = .slice (some ⟨g, 0, none⟩) n cc ∧ (∃ A' d', OwnP wx w4.heap.size wx.heap.size (some ⟨g, 0, none⟩) n cc ((es.set a ⟨⟨p.c, p.k, p.f, y - 1, p.ns⟩, x.a, x.d⟩).set a ⟨enP p y, A', d'⟩)) ∧ Below w4.heap.size w4 wx)
    case first =>
      go_region_held3 (fun W => W.cell? ⟨w2.heap.size, 0, none⟩ = some (.slice A1 p.ns.length d1) ∧ W.cell? ⟨g, a * 5 + 2, none⟩ = some (.int .i64 p.f) ∧ W.cell? ⟨g, a * 5 + 3, none⟩ = some (.int .i64 (y - 1)) ∧ Below w4.heap.size w4 W ∧ w2.heap.size < w4.heap.size ∧ w4.heap.size ≤ g ∧ g < W.heap.size)
        (first | (exact hstart) | (exact EnQ.keep (A0 := w4) (by assumption) hbk) | (exact EnQ.store (A0 := w4) (by assumption) _) | assumption)
        (first
          | (go_at_call 63; refine (CCT.out V6.drew (Below.refl _ _).drew).mono ?_; rintro e wc ⟨A', d', rfl, hdd, hin, hbk⟩; have how7 := HO6.out.drew.below hbk; have q4 := (how7.row.cellAt (a * 5 + 4) hal5).trans (plV_at _ a _ HXA.out).2.2.2.2; have f4 := how7.row.frozenAt (a * 5 + 4)))
      all_goals (go_wp2_with fail; go_meet)
      all_goals
        have hst9 := how7.row.stored (a * 5 + 4) (.slice A' (cutL (y - 1) p.ns).length d')
        have hsn := plV_setN (es.set a ⟨⟨p.c, p.k, p.f, y - 1, p.ns⟩, x.a, x.d⟩) a _ ⟨enP p y, A', d'⟩ HXA.out rfl rfl rfl HMI.out
        have hrow9 := hst9.1
        rw [show Value.slice A' (cutL (y - 1) p.ns).length d' = Value.slice (⟨enP p y, A', d'⟩ : PE).a (⟨enP p y, A', d'⟩ : PE).p.ns.length (⟨enP p y, A', d'⟩ : PE).d from rfl, hsn] at hrow9
        have how9 := how7.here.set (k := a) (e := ⟨enP p y, A', d'⟩) (fun _ => ⟨hin.mono HB6.out.size, fun b hb => (hin.lt b hb).2⟩) (fun j z hj hz h1 h2 => HO6.out.drew.newer hin h2 z (List.mem_of_getElem? hz) h1) hrow9 hst9.2
        exact ⟨rfl, ⟨A', d', how9.here⟩, EnQ.get (A0 := w4) (show EnQ w4 w2.heap.size g a (.slice A1 p.ns.length d1) (.int .i64 p.f) (.int .i64 (y - 1)) _ by assumption)⟩
    case rest =>
      obtain ⟨rfl, ⟨A', d', hfin⟩, hb8⟩ := hcut
      obtain ⟨w8, rfl⟩ : ∃ w8 : World, w8 = wc := ⟨_, rfl⟩
      have HFIN := Lib.hid hfin
      clear hfin
      go_wp2_with fail
      go_ret2
      exact ⟨_, n, cc, _, rfl, HES.out _, HFIN.out.down HB4.out.size, bstep9 HB4.out HB4.out.size hb8⟩
end Go.Proofs.YtkbkgbhnfopgnaaDoor
