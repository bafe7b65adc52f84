/-
  The contract of AddPlace of the reference.
-/
import Derived.Test.YtglmibmjbignbaaGreatDoorMy18
import Derived.Test.YtglmibmjbignbaaGreatDoorMy15
import Derived.BigQuiet
namespace Go.Proofs.YtglmibmjbignbaaGreatDoor
set_option linter.unusedVariables false
open Go.RowKit Go.Lib

theorem OwnP.none12 (w : World) (lo hi : Nat) : OwnP w lo hi none 0 0 [] := ⟨World.ownsRow_nil _ _ _ _, fun k hk => (by cases hk), fun e he => (by cases he), fun i j x y _ hi => (by simp at hi)⟩
theorem ad_code {ps : List Pl} {p : Pl} (h1 : regB ps = true) (h2 : plB p = true) : (regB (insP ps p) = true ∧ adC ps p = 0) ∨ (regB (insP ps p) = false ∧ adC ps p = 5) := by
  cases h3 : regB (insP ps p)
  · right
    refine ⟨rfl, ?_⟩
    rcases ad_cases ps p with ⟨_, e⟩ | ⟨_, _, e⟩ | ⟨e, _⟩ | ⟨e, _⟩ | ⟨_, e1, e2, e3, e4⟩
    · rw [h1] at e; cases e
    · rw [h2] at e; cases e
    · exact e
    · exact e
    · rw [(insP_reg e1 e2).2 ⟨e3, e4⟩] at h3; cases h3
  · left
    refine ⟨rfl, ?_⟩
    obtain ⟨e3, e4⟩ := (insP_reg h1 h2).1 h3
    rcases ad_cases ps p with ⟨_, e⟩ | ⟨_, _, e⟩ | ⟨_, _, _, e⟩ | ⟨_, _, _, _, e⟩ | ⟨e, _⟩
    · rw [h1] at e; cases e
    · rw [h2] at e; cases e
    · rw [e3] at e; cases e
    · exact absurd e e4
    · exact e
theorem bx_add {w : World} {b : Nat} {l : List Value} (h : Bx w b l) : ∀ ad, some (⟨b, 0, none⟩ : Addr) = some ad → ∀ j u, l[j]? = some u → w.cell? (ad.add j) = some u := fun ad e j u hu => by
  obtain rfl := Option.some.inj e
  rw [add_plain', Nat.zero_add]
  exact (h.2 j u hu).1
theorem take_plV {es : List PE} {q j : Nat} {u : Value} (h : (plV (es.take q))[j]? = some u) : (plV es)[j]? = some u := by
  have h1 := (List.getElem?_eq_some_iff.1 h).1
  conv => lhs; rw [← List.take_append_drop q es, plV_app]
  rw [List.getElem?_append_left h1]; exact h
theorem drop_plV {es : List PE} {q j : Nat} {u : Value} (h : (plV (es.drop q))[j]? = some u) : (plV es)[q * 5 + j]? = some u := by
  have h1 := (List.getElem?_eq_some_iff.1 h).1
  rw [plV_len, List.length_drop] at h1
  have hl : (plV (es.take q)).length = q * 5 := by rw [plV_len, List.length_take]; omega
  conv => lhs; rw [← List.take_append_drop q es, plV_app]
  rw [List.getElem?_append_right (by omega), hl, Nat.add_sub_cancel_left]; exact h
theorem below_drewN11 {C : Nat} {w w' : World} (h : Below C w w') : ∀ n, Below C w (w'.drewN n)
  | 0 => h
  | n + 1 => (below_drewN11 h n).drew
set_option maxHeartbeats 4000000 in
set_option maxRecDepth 100000 in
theorem cAdd_spec (A Ap : Option Addr) (n c d : Nat) (ps : List Pl) (p : Pl) (w : World) (hb : n ≤ 1048576) (hz : Sz11 ps) (hzp : p.c.size ≤ 1048576 ∧ p.ns.length ≤ 1048576 ∧ ∀ e ∈ p.ns, e.t.size ≤ 1048576 ∧ e.l.size ≤ 1048576) (h : PlAt w w.heap.size A n ps)
    (hA : (A = none ∧ n = 0 ∧ c = 0) ∨ ∃ g, A = some ⟨g, 0, none⟩ ∧ n ≤ c ∧ g < w.heap.size) (hn : NmAt w w.heap.size Ap p.ns.length p.ns) (hd : p.ns.length ≤ d) :
    Calls Tryz.prog 12 #[.slice A n c, plv11 p Ap d] w (OutPl (adZ ps p) (adC ps p) w) := by
  obtain ⟨i0, hi0, hz0, hz1, hz2⟩ := info_parts info_pl
  obtain ⟨W0, hW0⟩ : ∃ W0 : World, W0 = w.alloc (.cells #[.string p.c, .int .i64 p.k, .int .i64 p.f, .int .i64 p.u, .slice Ap p.ns.length d] 29) := ⟨_, rfl⟩
  have hB0 : Below w.heap.size w W0 := by rw [hW0]; exact below_alloc11 _ _
  have HX : Hid (Bx W0 w.heap.size [.string p.c, .int .i64 p.k, .int .i64 p.f, .int .i64 p.u, .slice Ap p.ns.length d]) := Lib.hid (by rw [hW0]; exact Bx.new w _ _)
  have CR := Lib.hid (cIsReg_spec A n c ps W0 hb hz (h.grow hB0))
  have CP := Lib.hid (fun W (hW : Below w.heap.size w W) => cIsPl_spec p Ap d W (by have := hzp.1; unfold maxLen; omega) hzp.2.1 hzp.2.2 (hn.grow hW))
  have H := Lib.hid h
  have HN := Lib.hid h.1
  have HZ := Lib.hid hz
  have HZP := Lib.hid hzp
  have HNM := Lib.hid hn
  have HD := Lib.hid hd
  have HA := Lib.hid hA
  have HB0 := Lib.hid hB0
  have HW0 := Lib.hid hW0
  clear h hn hd hz hzp hA hB0 hW0
  cases e1 : regB ps with
  | false =>
    have hq : adC ps p = 1 := by unfold adC; rw [e1]; rfl
    rw [adZ_no (by rw [hq]; decide), hq]
    rw [e1] at CR
    clear hq e1 CP
    go_enter Tryz.func12, Tryz.ntmps12
    go_wp2_with fail
    rw [← HW0.out]
    refine CR.out.mono ?_
    rintro e w1 ⟨rfl, g1⟩
    have hbt := bstep9 HB0.out HB0.out.size g1
    go_wp2_with fail
    go_ret2
    exact ⟨none, 0, 0, [], rfl, rfl, OwnP.none12 _ _ _, hbt⟩
  | true =>
    rw [e1] at CR
    cases e2 : plB p with
    | false =>
      have hq : adC ps p = 1 := by unfold adC; rw [e1, e2]; rfl
      rw [adZ_no (by rw [hq]; decide), hq]
      rw [e2] at CP
      clear hq e1 e2
      go_enter Tryz.func12, Tryz.ntmps12
      go_wp2_with fail
      rw [← HW0.out]
      refine CR.out.mono ?_
      rintro e w1 ⟨rfl, g1⟩
      have hbt := bstep9 HB0.out HB0.out.size g1
      obtain ⟨x0, x1, x2, x3, x4, _⟩ := (HX.out.next g1).five
      go_wp2_with fail
      refine (CP.out _ hbt).mono ?_
      rintro e w2 ⟨rfl, g2⟩
      have hb2 := bstep9 hbt hbt.size g2
      go_wp2_with fail
      go_ret2
      exact ⟨none, 0, 0, [], rfl, rfl, OwnP.none12 _ _ _, hb2⟩
    | true =>
      rw [e2] at CP
      have HCODE := Lib.hid (ad_code e1 e2)
      have hale := atP_le ps p.c
      have HLT : Hid (∀ (j : Nat) q, j < atP ps p.c → ps[j]? = some q → ltB q.c p.c = true) := Lib.hid (fun j q => atP_lt)
      have HST : Hid (∀ q, ps[atP ps p.c]? = some q → ltB q.c p.c = false) := Lib.hid (fun q => atP_stop)
      have hn10 : n ≤ 10 := by have := (reg_of e1).1; have := HN.out; omega
      obtain ⟨a, ha⟩ : ∃ a, a = atP ps p.c := ⟨_, rfl⟩
      have HINS : Hid (insP ps p = ps.take a ++ [p] ++ ps.drop a) := Lib.hid (by rw [ha]; rfl)
      rw [← ha] at hale HLT HST
      have hale2 : a ≤ n := by have := HN.out; omega
      obtain ⟨zs, hzs⟩ : ∃ zs, zs = insP ps p := ⟨_, rfl⟩
      have HZS := Lib.hid hzs
      obtain ⟨cd, hcd⟩ : ∃ cd, cd = adC ps p := ⟨_, rfl⟩
      have HADZ : Hid ((cd = 0 → adZ ps p = zs) ∧ (cd ≠ 0 → adZ ps p = [])) := Lib.hid ⟨fun e => by rw [hzs]; exact adZ_ok (by rw [← hcd]; exact e), fun e => adZ_no (by rw [← hcd]; exact e)⟩
      obtain ⟨az, haz⟩ : ∃ az, az = adZ ps p := ⟨_, rfl⟩
      rw [← hcd, ← hzs] at HCODE
      rw [← haz] at HADZ ⊢
      rw [← hcd]
      rw [← hzs] at HINS
      have HSZ : Hid (Sz11 zs) := Lib.hid (by
        intro x hx
        rw [HINS.out, List.mem_append, List.mem_append, List.mem_singleton] at hx
        rcases hx with (hx | rfl) | hx
        · exact HZ.out x (List.mem_of_mem_take hx)
        · exact HZP.out
        · exact HZ.out x (List.mem_of_mem_drop hx))
      clear e1 e2 ha hale hzs hcd haz
      go_enter Tryz.func12, Tryz.ntmps12
      go_wp2_with fail
      rw [← HW0.out]
      refine CR.out.mono ?_
      rintro e w1 ⟨rfl, g1⟩
      have hbt := bstep9 HB0.out HB0.out.size g1
      obtain ⟨x0, x1, x2, x3, x4, _⟩ := (HX.out.next g1).five
      go_wp2_with fail
      refine (CP.out _ hbt).mono ?_
      rintro e w2 ⟨rfl, g2⟩
      have hb2 := bstep9 hbt hbt.size g2
      have HX2 := Lib.hid ((HX.out.next g1).next g2)
      have HB2 := Lib.hid hb2
      clear g1 g2 hbt hb2 x0 x1 x2 x3 x4 CR CP
      go_wp2_with fail
      go_loopw [6] (fun i wr => ∃ q : Nat, q ≤ a ∧ i = .int .i64 q ∧ Below w2.heap.size w2 wr) (fun i _ => n - (RowKit.intOf i).toNat)
      case atStart => exact ⟨0, Nat.zero_le _, rfl, Below.refl _ _⟩
      case round =>
        obtain ⟨q, hq, rfl, hbw⟩ := hrel
        have HBW := Lib.hid (bstep9 HB2.out HB2.out.size hbw)
        obtain ⟨y0, y1, y2, y3, y4, _⟩ := (HX2.out.next hbw).five
        have u1 : (0 : Int) ≤ (q : Int) := Int.natCast_nonneg _
        by_cases hlt : q < a
        · obtain ⟨x, hx⟩ : ∃ x, ps[q]? = some x := ⟨ps[q]'(by have := HN.out; omega), List.getElem?_eq_getElem _⟩
          obtain ⟨b, o, rfl, hbl, A1, d1, c0, c1, c2, c3, c4, hnm, hd1⟩ := (H.out.below HBW.out (Nat.le_refl _)).row hx
          have hls : Op.bytesLess x.c.toList p.c.toList = true := by rw [less_dec]; exact decide_eq_true ((ltB_iff _ _).1 (HLT.out q x hlt hx))
          have u2 : (q : Int) < (n : Int) := by omega
          clear hx hnm hd1
          go_wp2_with fail
          go_quiet (fail)
          go_wp2
          go_roundw
          case rel => exact ⟨q + 1, by omega, by go_num, below_drewN11 hbw _⟩
          case measure => simp [RowKit.intOf]; omega
        · obtain rfl : q = a := by omega
          rcases HA.out with ⟨rfl, h0, hc0⟩ | ⟨g, rfl, hnc, hgl⟩
          · obtain rfl : q = n := by omega
            obtain rfl : q = c := by omega
            have HKQ : Hid (q = q) := Lib.hid rfl
            have HQ0 : Hid (q = 0) := Lib.hid h0
            clear h0 hc0
            have u3 : decide ((q : Int) < (q : Int)) = false := decide_eq_false (by omega)
            go_wp2_with fail
            go_quiet (fail)
            go_wp2_with fail
            obtain ⟨wd, hwd⟩ : ∃ wd : World, wd = wr.drewN nq := ⟨_, rfl⟩
            have hbd : Below w.heap.size w wd := by rw [hwd]; exact below_drewN11 HBW.out _
            have hb2d : Below w2.heap.size w2 wd := by rw [hwd]; exact below_drewN11 hbw _
            have HXD := Lib.hid (HX2.out.next hb2d)
            obtain ⟨x0, x1, x2, x3, x4, _⟩ := HXD.out.five
            have hxlt := HXD.out.1
            obtain ⟨es, hes, hps⟩ := ps_of_pl (H.out.grow hbd)
            have HES := Lib.hid hps.len
            have HNS := Lib.hid hps.names
            have HPL := Lib.hid hes
            have HBD := Lib.hid hbd
            rw [← hwd]
            clear hwd hbd hb2d hps hes y0 y1 y2 y3 y4
            have NT : Hid (∀ W, Below wd.heap.size wd W → ∀ ad, (none : Option Addr) = some ad → ∀ j u, (plV (es.take q))[j]? = some u → W.cell? (ad.add j) = some u) := Lib.hid (fun W hW ad e => by cases e)
            have ND : Hid (∀ W, Below wd.heap.size wd W → ∀ oa : Option Addr, (oa = none ∨ q = q) → ∀ ad, oa = some ad → ∀ j u, (plV (es.drop q))[j]? = some u → W.cell? (ad.add j) = some u) := Lib.hid (fun W hW oa _ ad e j u hu => by
              have := (List.getElem?_eq_some_iff.1 hu).1
              rw [plV_len, List.length_drop] at this
              have := HES.out
              omega)
            have BA : Hid (Below wd.heap.size wd ((wd.alloc (.cells #[] 29)).drew)) := Lib.hid ((Below.refl _ _).alloc (Nat.le_refl _) _).drew
            have BC : Hid (Below wd.heap.size wd (((wd.alloc (.cells #[] 29)).drew).alloc (.cells #[.string p.c, .int .i64 p.k, .int .i64 p.f, .int .i64 p.u, .slice Ap p.ns.length d] 29))) := Lib.hid (BA.out.alloc BA.out.size _)
            have BF0 : Below wd.heap.size wd ((wd.alloc (.cells #[.string p.c, .int .i64 p.k, .int .i64 p.f, .int .i64 p.u, .slice Ap p.ns.length d] 29)).drew) := ((Below.refl _ _).alloc (Nat.le_refl _) _).drew
            have BF : Hid (Below wd.heap.size wd (((wd.alloc (.cells #[.string p.c, .int .i64 p.k, .int .i64 p.f, .int .i64 p.u, .slice Ap p.ns.length d] 29)).drew).alloc (.cells #[] 29))) := Lib.hid (BF0.alloc BF0.size _)
            have OA : Hid (((wd.alloc (.cells #[] 29)).drew).ownsRow wd.heap.size 29 5 (.slice (some ⟨wd.heap.size, 0, none⟩) 0 0) 0 (#[] : Array Value).toList) := Lib.hid (World.ownsRow_lit (e := 29) (base := wd.heap.size) (size := 5) wd #[] 0 (Nat.le_refl _) (by decide) rfl)
            have OC : Hid ((((wd.alloc (.cells #[] 29)).drew).alloc (.cells #[.string p.c, .int .i64 p.k, .int .i64 p.f, .int .i64 p.u, .slice Ap p.ns.length d] 29)).ownsRow wd.heap.size 29 5 (.slice (some ⟨wd.heap.size, 0, none⟩) 0 0) 0 (#[] : Array Value).toList) := Lib.hid (OA.out.alloc _)
            have hs1 : ((wd.alloc (.cells #[.string p.c, .int .i64 p.k, .int .i64 p.f, .int .i64 p.u, .slice Ap p.ns.length d] 29)).drew).heap.size = wd.heap.size + 1 := by simp
            have hsA : ((wd.alloc (.cells #[] 29)).drew).heap.size = wd.heap.size + 1 := by simp
            have OF : Hid ((((wd.alloc (.cells #[.string p.c, .int .i64 p.k, .int .i64 p.f, .int .i64 p.u, .slice Ap p.ns.length d] 29)).drew).alloc (.cells #[] 29)).ownsRow wd.heap.size 29 5 (.slice (some ⟨wd.heap.size + 1, 0, none⟩) 0 0) 0 (#[] : Array Value).toList) := Lib.hid (by
              have h := World.ownsRow_lit (e := 29) (base := wd.heap.size) (size := 5) ((wd.alloc (.cells #[.string p.c, .int .i64 p.k, .int .i64 p.f, .int .i64 p.u, .slice Ap p.ns.length d] 29)).drew) #[] 0 (by omega) (by decide) rfl
              rw [hs1] at h
              exact h)
            have XC : Hid (Bx (((wd.alloc (.cells #[] 29)).drew).alloc (.cells #[.string p.c, .int .i64 p.k, .int .i64 p.f, .int .i64 p.u, .slice Ap p.ns.length d] 29)) (wd.heap.size + 1) (encE11 ⟨p, Ap, d⟩)) := Lib.hid (by
              have h := Bx.new ((wd.alloc (.cells #[] 29)).drew) #[.string p.c, .int .i64 p.k, .int .i64 p.f, .int .i64 p.u, .slice Ap p.ns.length d] 29
              rw [hsA] at h
              exact h)
            have XF : Hid (Bx (((wd.alloc (.cells #[.string p.c, .int .i64 p.k, .int .i64 p.f, .int .i64 p.u, .slice Ap p.ns.length d] 29)).drew).alloc (.cells #[] 29)) wd.heap.size (encE11 ⟨p, Ap, d⟩)) := Lib.hid (((Bx.new wd #[.string p.c, .int .i64 p.k, .int .i64 p.f, .int .i64 p.u, .slice Ap p.ns.length d] 29).drew).alloc _)
            have KC : Hid (∀ W, (((wd.alloc (.cells #[] 29)).drew).alloc (.cells #[.string p.c, .int .i64 p.k, .int .i64 p.f, .int .i64 p.u, .slice Ap p.ns.length d] 29)).grownBy W (Value.slice (some ⟨wd.heap.size, 0, none⟩) 0 0).ownBlock → ∀ ad, some (⟨wd.heap.size + 1, 0, none⟩ : Addr) = some ad → ∀ j u, (encE11 ⟨p, Ap, d⟩)[j]? = some u → W.cell? (ad.add j) = some u) := Lib.hid (fun W hW => bx_add (XC.out.grown hW (by simp)))
            have KF : Hid (∀ W, (((wd.alloc (.cells #[.string p.c, .int .i64 p.k, .int .i64 p.f, .int .i64 p.u, .slice Ap p.ns.length d] 29)).drew).alloc (.cells #[] 29)).grownBy W (Value.slice (some ⟨wd.heap.size + 1, 0, none⟩) 0 0).ownBlock → ∀ ad, some (⟨wd.heap.size, 0, none⟩ : Addr) = some ad → ∀ j u, (encE11 ⟨p, Ap, d⟩)[j]? = some u → W.cell? (ad.add j) = some u) := Lib.hid (fun W hW => bx_add (XF.out.grown hW (by simp)))
            have KN : Hid (∀ W : World, ∀ ad, some (⟨W.heap.size, 0, none⟩ : Addr) = some ad → ∀ j u, (encE11 ⟨p, Ap, d⟩)[j]? = some u → (W.alloc (.cells #[.string p.c, .int .i64 p.k, .int .i64 p.f, .int .i64 p.u, .slice Ap p.ns.length d] 29)).cell? (ad.add j) = some u) := Lib.hid (fun W => bx_add (Bx.new W #[.string p.c, .int .i64 p.k, .int .i64 p.f, .int .i64 p.u, .slice Ap p.ns.length d] 29))
            have L1 : Hid ((plV (es.take q)).length = q * 5) := Lib.hid (by rw [plV_len, List.length_take]; have := HES.out; omega)
            have L3 : Hid ((plV (es.drop q)).length = (q - q) * 5) := Lib.hid (by rw [plV_len, List.length_drop]; have := HES.out; omega)
            have L30 : Hid ((plV (es.drop q)).length = 0 * 5) := Lib.hid (by rw [plV_len, List.length_drop]; have := HES.out; omega)
            have P1 : Hid (0 + q ≤ maxLen) := Lib.hid (by unfold maxLen; omega)
            have P2 : Hid ((0 + q) * 64 ≤ 140737488355328) := Lib.hid (by omega)
            have P3 : Hid (0 + q + 1 ≤ maxLen) := Lib.hid (by unfold maxLen; omega)
            have P4 : Hid ((0 + q + 1) * 64 ≤ 140737488355328) := Lib.hid (by omega)
            have P5 : Hid (0 + q + 1 + (q - q) ≤ maxLen) := Lib.hid (by unfold maxLen; omega)
            have P6 : Hid ((0 + q + 1 + (q - q)) * 64 ≤ 140737488355328) := Lib.hid (by omega)
            have P7 : Hid (0 + q + 1 + 0 ≤ maxLen) := Lib.hid (by unfold maxLen; omega)
            have P8 : Hid ((0 + q + 1 + 0) * 64 ≤ 140737488355328) := Lib.hid (by omega)
            have LE1 : Hid ((encE11 ⟨p, Ap, d⟩).length = 1 * 5) := Lib.hid rfl
            have ON1 : Hid (∀ u ∈ encE11 ⟨p, Ap, d⟩, u.oneCell' = true) := Lib.hid (fun u hu => pl_one11 [⟨p, Ap, d⟩] u (by rw [plV_one]; exact hu))
            obtain ⟨xa0, xa1, xa2, xa3, xa4, _⟩ := (HXD.out.next BA.out).five
            clear BF0 hs1 hsA
            go_cut [7] (fun v wx => (∃ C cc, v = .slice (some ⟨C, 0, none⟩) (q + 1) cc ∧ wx.ownsRow wd.heap.size 29 5 v (q + 1) (plV (es.take q ++ [⟨p, Ap, d⟩] ++ es.drop q))) ∧ Below wd.heap.size wd wx)
            case first =>
              go_region_law (first
                | ((refine step_append_x rfl (.tmp 32) (.tmp 35) 24 rfl wd.heap.size 29 i0 _ 5 64 Tryz.underlying24 hi0 hz0 hz1 hz2 rfl (by decide) _ 0 _ rfl (by first | exact OA.out | exact OC.out | exact OF.out) _ q _ (plV (es.take q)) rfl (by first | exact fun _ => HQ0.out | exact fun e => (by cases e)) L1.out (by first | exact NT.out _ BA.out | exact NT.out _ BC.out | exact NT.out _ BF.out) (pl_one11 _) P1.out P2.out (by first | exact BA.out.size | exact BC.out.size | exact BF.out.size) ?_); intro v5 w5 hown5 hgrow5 hnil5; have hb5 : Below wd.heap.size wd w5 := (by first | exact BA.out.grown hgrow5 BA.out.size (fun j hj => (OA.out.lt j hj).1) | exact BC.out.grown hgrow5 BC.out.size (fun j hj => (OC.out.lt j hj).1) | exact BF.out.grown hgrow5 BF.out.size (fun j hj => (OF.out.lt j hj).1)); obtain ⟨x50, x51, x52, x53, x54, _⟩ := (HXD.out.next hb5).five)
                | ((refine step_append_x rfl (.tmp 36) (.tmp 38) 24 rfl wd.heap.size 29 i0 _ 5 64 Tryz.underlying24 hi0 hz0 hz1 hz2 rfl (by decide) _ _ _ rfl (by first | exact hown5 | exact hown5.alloc _) _ 1 1 (encE11 ⟨p, Ap, d⟩) rfl (fun e => by cases e) LE1.out (by first | exact KN.out w5 | exact KC.out w5 hgrow5 | exact KF.out w5 hgrow5) ON1.out P3.out P4.out (by first | exact hb5.size | exact (hb5.alloc hb5.size _).size) ?_); intro v6 w6 hown6 hgrow6 hnil6; have hb6 : Below wd.heap.size wd w6 := (by first | exact hb5.grown hgrow6 hb5.size (fun j hj => (hown5.lt j hj).1) | exact (hb5.alloc hb5.size _).grown hgrow6 (hb5.alloc hb5.size _).size (fun j hj => (hown5.lt j hj).1)))
                | ((refine step_append_x rfl (.tmp 39) (.tmp 42) 24 rfl wd.heap.size 29 i0 _ 5 64 Tryz.underlying24 hi0 hz0 hz1 hz2 rfl (by decide) _ _ _ rfl hown6 _ _ _ (plV (es.drop q)) rfl (by first | exact fun _ => HQ0.out | exact fun _ => rfl | exact fun e => (by cases e)) (by first | exact L3.out | exact L30.out) (by first | exact ND.out _ hb6 _ (.inl rfl) | exact ND.out _ hb6 _ (.inr rfl) | exact ND.out _ hb6 _ (.inr trivial)) (pl_one11 _) (by first | exact P5.out | exact P7.out) (by first | exact P6.out | exact P8.out) hb6.size ?_); intro v7 w7 hown7 hgrow7 hnil7; have hb7 : Below wd.heap.size wd w7 := hb6.grown hgrow7 hb6.size (fun j hj => (hown6.lt j hj).1)))
              all_goals
                have hown8 : w7.ownsRow wd.heap.size 29 5 v7 (q + 1) (plV (es.take q ++ [⟨p, Ap, d⟩] ++ es.drop q)) := by
                  have e : 0 + q + 1 + (q - q) = q + 1 := by omega
                  have e' : 0 + q + 1 + 0 = q + 1 ∨ True := .inr trivial
                  have e2 : plV (es.take q ++ [⟨p, Ap, d⟩] ++ es.drop q) = (#[] : Array Value).toList ++ plV (es.take q) ++ encE11 ⟨p, Ap, d⟩ ++ plV (es.drop q) := by rw [plV_app, plV_app, plV_one]; simp
                  rw [e2]
                  first
                    | (rw [← e]; exact hown7)
                    | (have e9 : 0 + q + 1 + 0 = q + 1 := by omega
                       rw [e9] at hown7; exact hown7)
                obtain ⟨g7, c7, hv7, _, _⟩ := World.ownsRow.form hown8 (by omega)
                subst hv7
                clear hown7 hown6 hown5 hgrow5 hgrow6 hgrow7 hnil5 hnil6 hnil7 hb5 hb6
                go_wp2_with fail
                go_meet
              all_goals exact ⟨⟨g7, c7, rfl, hown8⟩, hb7⟩
            case rest =>
              obtain ⟨⟨g8, c8, rfl, hrow⟩, hb8⟩ := hcut
              obtain ⟨w8, rfl⟩ : ∃ w8 : World, w8 = wc := ⟨_, rfl⟩
              have hbw8 := bstep9 HBD.out HBD.out.size hb8
              have hpl : PlAt w8 w8.heap.size (some ⟨g8, 0, none⟩) (q + 1) zs := by
                rw [HINS.out, ← HPL.out, ← insP_pls es ⟨p, Ap, d⟩ q]
                exact pl_of_row hrow (fun e he => by
                  rw [List.mem_append, List.mem_append, List.mem_singleton] at he
                  rcases he with (he | rfl) | he
                  · exact ⟨((HNS.out e (List.mem_of_mem_take he)).1).grow hb8, (HNS.out e (List.mem_of_mem_take he)).2⟩
                  · exact ⟨(HNM.out.grow hbw8), HD.out⟩
                  · exact ⟨((HNS.out e (List.mem_of_mem_drop he)).1).grow hb8, (HNS.out e (List.mem_of_mem_drop he)).2⟩)
              have CRZ := Lib.hid (cIsReg_spec (some ⟨g8, 0, none⟩) (q + 1) c8 zs w8 (by omega) HSZ.out hpl)
              have COZ := Lib.hid (fun W (hW : Below w8.heap.size w8 W) => cOwnPl (some ⟨g8, 0, none⟩) (q + 1) c8 zs W (by omega) HSZ.out (hpl.grow hW))
              have HBW8 := Lib.hid hbw8
              clear hrow hb8 hpl hbw8
              rcases HCODE.out with ⟨er, ec⟩ | ⟨er, ec⟩
              · rw [er] at CRZ
                obtain rfl : az = zs := HADZ.out.1 ec
                subst ec
                clear er HADZ
                go_wp2_with fail
                refine CRZ.out.mono ?_
                rintro e w9 ⟨rfl, g9⟩
                have CO9 := Lib.hid (COZ.out w9 g9)
                have hb9 := bstep9 HBW8.out HBW8.out.size g9
                go_wp2_with fail
                refine CO9.out.mono ?_
                rintro e w10 ⟨C, cc, es9, rfl, hes9, how, g10⟩
                have hb10 := bstep9 hb9 hb9.size g10
                have HOW := Lib.hid (how.down hb9.size)
                clear how
                go_wp2_with fail
                go_ret2
                exact ⟨C, q + 1, cc, es9, rfl, hes9, HOW.out, hb10⟩
              · rw [er] at CRZ
                obtain rfl : az = [] := HADZ.out.2 (by rw [ec]; decide)
                subst ec
                clear er HADZ
                go_wp2_with fail
                refine CRZ.out.mono ?_
                rintro e w9 ⟨rfl, g9⟩
                have hb9 := bstep9 HBW8.out HBW8.out.size g9
                go_wp2_with fail
                go_ret2
                exact ⟨none, 0, 0, [], rfl, rfl, OwnP.none12 _ _ _, hb9⟩
          · by_cases hend : q < n
            · have HQN : Hid (q ≤ n) := Lib.hid (by omega)
              obtain ⟨x, hx⟩ : ∃ x, ps[q]? = some x := ⟨ps[q]'(by have := HN.out; omega), List.getElem?_eq_getElem _⟩
              obtain ⟨b, o, hbo, hbl, A1, d1, c0, c1, c2, c3, c4, hnm, hd1⟩ := (H.out.below HBW.out (Nat.le_refl _)).row hx
              obtain ⟨e1, e2⟩ : g = b ∧ 0 = o := by injection hbo with e; injection e with e1 e2; exact ⟨e1, e2⟩
              subst e1 e2
              rw [Nat.zero_add] at c0 c1 c2 c3 c4
              have hls : Op.bytesLess x.c.toList p.c.toList = false := by rw [less_dec]; exact decide_eq_false ((ltB_not _ _).1 (HST.out x hx))
              have u2 : (q : Int) < (n : Int) := by omega
              have v2 : (q : Int) ≤ (n : Int) := by omega
              have v3 : (q : Int) ≤ (c : Int) := by omega
              have v5 : (n : Int) ≤ (c : Int) := by omega
              have v4 : (0 : Int) ≤ (n : Int) := Int.natCast_nonneg _
              have v6 : q ≤ c := by omega
              have hcc : ¬ c = q := by omega
              clear hx hnm hd1
              go_wp2_with fail
              go_quiet (fail)
              go_wp2_with fail
              obtain ⟨wd, hwd⟩ : ∃ wd : World, wd = wr.drewN nq := ⟨_, rfl⟩
              have hbd : Below w.heap.size w wd := by rw [hwd]; exact below_drewN11 HBW.out _
              have hb2d : Below w2.heap.size w2 wd := by rw [hwd]; exact below_drewN11 hbw _
              have HXD := Lib.hid (HX2.out.next hb2d)
              obtain ⟨x0, x1, x2, x3, x4, _⟩ := HXD.out.five
              have hxlt := HXD.out.1
              obtain ⟨es, hes, hps⟩ := ps_of_pl (H.out.grow hbd)
              have HES := Lib.hid hps.len
              have HNS := Lib.hid hps.names
              have HPL := Lib.hid hes
              have HBD := Lib.hid hbd
              rw [← hwd]
              have HCL : Hid (∀ (j : Nat) u, (plV es)[j]? = some u → wd.cell? ((⟨g, 0, none⟩ : Addr).add j) = some u) := Lib.hid (fun j u hu => hps.cells _ rfl j u hu)
              have HGL : Hid (g < wd.heap.size) := Lib.hid (Nat.lt_of_lt_of_le hgl hbd.size)
              clear hwd hbd hb2d hps hes y0 y1 y2 y3 y4
              have NT : Hid (∀ W, Below wd.heap.size wd W → ∀ ad, some (⟨g, 0, none⟩ : Addr) = some ad → ∀ j u, (plV (es.take q))[j]? = some u → W.cell? (ad.add j) = some u) := Lib.hid (fun W hW ad e j u hu => by
                obtain rfl := Option.some.inj e
                have h1 := HCL.out j u (take_plV hu)
                rw [add_plain'] at h1 ⊢
                exact (hW.cell (p := ⟨g, 0 + j, none⟩) HGL.out).trans h1)
              have ND : Hid (∀ W, Below wd.heap.size wd W → ∀ oa : Option Addr, (oa = some ⟨g, q * 5, none⟩ ∨ n = q) → ∀ ad, oa = some ad → ∀ j u, (plV (es.drop q))[j]? = some u → W.cell? (ad.add j) = some u) := Lib.hid (fun W hW oa hor ad e j u hu => by
                rcases hor with h0 | h0
                · rw [h0] at e
                  obtain rfl := Option.some.inj e
                  have h1 := HCL.out (q * 5 + j) u (drop_plV hu)
                  rw [add_plain'] at h1 ⊢
                  rw [Nat.zero_add] at h1
                  exact (hW.cell (p := ⟨g, q * 5 + j, none⟩) HGL.out).trans h1
                · have := (List.getElem?_eq_some_iff.1 hu).1
                  rw [plV_len, List.length_drop] at this
                  have := HES.out
                  omega)
              have BA : Hid (Below wd.heap.size wd ((wd.alloc (.cells #[] 29)).drew)) := Lib.hid ((Below.refl _ _).alloc (Nat.le_refl _) _).drew
              have BC : Hid (Below wd.heap.size wd (((wd.alloc (.cells #[] 29)).drew).alloc (.cells #[.string p.c, .int .i64 p.k, .int .i64 p.f, .int .i64 p.u, .slice Ap p.ns.length d] 29))) := Lib.hid (BA.out.alloc BA.out.size _)
              have BF0 : Below wd.heap.size wd ((wd.alloc (.cells #[.string p.c, .int .i64 p.k, .int .i64 p.f, .int .i64 p.u, .slice Ap p.ns.length d] 29)).drew) := ((Below.refl _ _).alloc (Nat.le_refl _) _).drew
              have BF : Hid (Below wd.heap.size wd (((wd.alloc (.cells #[.string p.c, .int .i64 p.k, .int .i64 p.f, .int .i64 p.u, .slice Ap p.ns.length d] 29)).drew).alloc (.cells #[] 29))) := Lib.hid (BF0.alloc BF0.size _)
              have OA : Hid (((wd.alloc (.cells #[] 29)).drew).ownsRow wd.heap.size 29 5 (.slice (some ⟨wd.heap.size, 0, none⟩) 0 0) 0 (#[] : Array Value).toList) := Lib.hid (World.ownsRow_lit (e := 29) (base := wd.heap.size) (size := 5) wd #[] 0 (Nat.le_refl _) (by decide) rfl)
              have OC : Hid ((((wd.alloc (.cells #[] 29)).drew).alloc (.cells #[.string p.c, .int .i64 p.k, .int .i64 p.f, .int .i64 p.u, .slice Ap p.ns.length d] 29)).ownsRow wd.heap.size 29 5 (.slice (some ⟨wd.heap.size, 0, none⟩) 0 0) 0 (#[] : Array Value).toList) := Lib.hid (OA.out.alloc _)
              have hs1 : ((wd.alloc (.cells #[.string p.c, .int .i64 p.k, .int .i64 p.f, .int .i64 p.u, .slice Ap p.ns.length d] 29)).drew).heap.size = wd.heap.size + 1 := by simp
              have hsA : ((wd.alloc (.cells #[] 29)).drew).heap.size = wd.heap.size + 1 := by simp
              have OF : Hid ((((wd.alloc (.cells #[.string p.c, .int .i64 p.k, .int .i64 p.f, .int .i64 p.u, .slice Ap p.ns.length d] 29)).drew).alloc (.cells #[] 29)).ownsRow wd.heap.size 29 5 (.slice (some ⟨wd.heap.size + 1, 0, none⟩) 0 0) 0 (#[] : Array Value).toList) := Lib.hid (by
                have h := World.ownsRow_lit (e := 29) (base := wd.heap.size) (size := 5) ((wd.alloc (.cells #[.string p.c, .int .i64 p.k, .int .i64 p.f, .int .i64 p.u, .slice Ap p.ns.length d] 29)).drew) #[] 0 (by omega) (by decide) rfl
                rw [hs1] at h
                exact h)
              have XC : Hid (Bx (((wd.alloc (.cells #[] 29)).drew).alloc (.cells #[.string p.c, .int .i64 p.k, .int .i64 p.f, .int .i64 p.u, .slice Ap p.ns.length d] 29)) (wd.heap.size + 1) (encE11 ⟨p, Ap, d⟩)) := Lib.hid (by
                have h := Bx.new ((wd.alloc (.cells #[] 29)).drew) #[.string p.c, .int .i64 p.k, .int .i64 p.f, .int .i64 p.u, .slice Ap p.ns.length d] 29
                rw [hsA] at h
                exact h)
              have XF : Hid (Bx (((wd.alloc (.cells #[.string p.c, .int .i64 p.k, .int .i64 p.f, .int .i64 p.u, .slice Ap p.ns.length d] 29)).drew).alloc (.cells #[] 29)) wd.heap.size (encE11 ⟨p, Ap, d⟩)) := Lib.hid (((Bx.new wd #[.string p.c, .int .i64 p.k, .int .i64 p.f, .int .i64 p.u, .slice Ap p.ns.length d] 29).drew).alloc _)
              have KC : Hid (∀ W, (((wd.alloc (.cells #[] 29)).drew).alloc (.cells #[.string p.c, .int .i64 p.k, .int .i64 p.f, .int .i64 p.u, .slice Ap p.ns.length d] 29)).grownBy W (Value.slice (some ⟨wd.heap.size, 0, none⟩) 0 0).ownBlock → ∀ ad, some (⟨wd.heap.size + 1, 0, none⟩ : Addr) = some ad → ∀ j u, (encE11 ⟨p, Ap, d⟩)[j]? = some u → W.cell? (ad.add j) = some u) := Lib.hid (fun W hW => bx_add (XC.out.grown hW (by simp)))
              have KF : Hid (∀ W, (((wd.alloc (.cells #[.string p.c, .int .i64 p.k, .int .i64 p.f, .int .i64 p.u, .slice Ap p.ns.length d] 29)).drew).alloc (.cells #[] 29)).grownBy W (Value.slice (some ⟨wd.heap.size + 1, 0, none⟩) 0 0).ownBlock → ∀ ad, some (⟨wd.heap.size, 0, none⟩ : Addr) = some ad → ∀ j u, (encE11 ⟨p, Ap, d⟩)[j]? = some u → W.cell? (ad.add j) = some u) := Lib.hid (fun W hW => bx_add (XF.out.grown hW (by simp)))
              have KN : Hid (∀ W : World, ∀ ad, some (⟨W.heap.size, 0, none⟩ : Addr) = some ad → ∀ j u, (encE11 ⟨p, Ap, d⟩)[j]? = some u → (W.alloc (.cells #[.string p.c, .int .i64 p.k, .int .i64 p.f, .int .i64 p.u, .slice Ap p.ns.length d] 29)).cell? (ad.add j) = some u) := Lib.hid (fun W => bx_add (Bx.new W #[.string p.c, .int .i64 p.k, .int .i64 p.f, .int .i64 p.u, .slice Ap p.ns.length d] 29))
              have L1 : Hid ((plV (es.take q)).length = q * 5) := Lib.hid (by rw [plV_len, List.length_take]; have := HES.out; omega)
              have L3 : Hid ((plV (es.drop q)).length = (n - q) * 5) := Lib.hid (by rw [plV_len, List.length_drop]; have := HES.out; omega)
              have P1 : Hid (0 + q ≤ maxLen) := Lib.hid (by unfold maxLen; omega)
              have P2 : Hid ((0 + q) * 64 ≤ 140737488355328) := Lib.hid (by omega)
              have P3 : Hid (0 + q + 1 ≤ maxLen) := Lib.hid (by unfold maxLen; omega)
              have P4 : Hid ((0 + q + 1) * 64 ≤ 140737488355328) := Lib.hid (by omega)
              have P5 : Hid (0 + q + 1 + (n - q) ≤ maxLen) := Lib.hid (by unfold maxLen; omega)
              have P6 : Hid ((0 + q + 1 + (n - q)) * 64 ≤ 140737488355328) := Lib.hid (by omega)
              have P7 : Hid (0 + q + 1 + 0 ≤ maxLen) := Lib.hid (by unfold maxLen; omega)
              have P8 : Hid ((0 + q + 1 + 0) * 64 ≤ 140737488355328) := Lib.hid (by omega)
              have LE1 : Hid ((encE11 ⟨p, Ap, d⟩).length = 1 * 5) := Lib.hid rfl
              have ON1 : Hid (∀ u ∈ encE11 ⟨p, Ap, d⟩, u.oneCell' = true) := Lib.hid (fun u hu => pl_one11 [⟨p, Ap, d⟩] u (by rw [plV_one]; exact hu))
              obtain ⟨xa0, xa1, xa2, xa3, xa4, _⟩ := (HXD.out.next BA.out).five
              clear BF0 hs1 hsA
              go_cut [7] (fun v wx => (∃ C cc, v = .slice (some ⟨C, 0, none⟩) (n + 1) cc ∧ wx.ownsRow wd.heap.size 29 5 v (n + 1) (plV (es.take q ++ [⟨p, Ap, d⟩] ++ es.drop q))) ∧ Below wd.heap.size wd wx)
              case first =>
                go_region_law (first
                  | ((refine step_append_x rfl (.tmp 32) (.tmp 35) 24 rfl wd.heap.size 29 i0 _ 5 64 Tryz.underlying24 hi0 hz0 hz1 hz2 rfl (by decide) _ 0 _ rfl (by first | exact OA.out | exact OC.out | exact OF.out) _ q _ (plV (es.take q)) rfl (by first | exact fun _ => HQ0.out | exact fun e => (by cases e)) L1.out (by first | exact NT.out _ BA.out | exact NT.out _ BC.out | exact NT.out _ BF.out) (pl_one11 _) P1.out P2.out (by first | exact BA.out.size | exact BC.out.size | exact BF.out.size) ?_); intro v5 w5 hown5 hgrow5 hnil5; have hb5 : Below wd.heap.size wd w5 := (by first | exact BA.out.grown hgrow5 BA.out.size (fun j hj => (OA.out.lt j hj).1) | exact BC.out.grown hgrow5 BC.out.size (fun j hj => (OC.out.lt j hj).1) | exact BF.out.grown hgrow5 BF.out.size (fun j hj => (OF.out.lt j hj).1)); obtain ⟨x50, x51, x52, x53, x54, _⟩ := (HXD.out.next hb5).five)
                  | ((refine step_append_x rfl (.tmp 36) (.tmp 38) 24 rfl wd.heap.size 29 i0 _ 5 64 Tryz.underlying24 hi0 hz0 hz1 hz2 rfl (by decide) _ _ _ rfl (by first | exact hown5 | exact hown5.alloc _) _ 1 1 (encE11 ⟨p, Ap, d⟩) rfl (fun e => by cases e) LE1.out (by first | exact KN.out w5 | exact KC.out w5 hgrow5 | exact KF.out w5 hgrow5) ON1.out P3.out P4.out (by first | exact hb5.size | exact (hb5.alloc hb5.size _).size) ?_); intro v6 w6 hown6 hgrow6 hnil6; have hb6 : Below wd.heap.size wd w6 := (by first | exact hb5.grown hgrow6 hb5.size (fun j hj => (hown5.lt j hj).1) | exact (hb5.alloc hb5.size _).grown hgrow6 (hb5.alloc hb5.size _).size (fun j hj => (hown5.lt j hj).1)))
                  | ((refine step_append_x rfl (.tmp 39) (.tmp 42) 24 rfl wd.heap.size 29 i0 _ 5 64 Tryz.underlying24 hi0 hz0 hz1 hz2 rfl (by decide) _ _ _ rfl hown6 _ _ _ (plV (es.drop q)) rfl (by first | exact fun _ => HQ0.out | exact fun _ => rfl | exact fun e => (by cases e)) (by first | exact L3.out | exact L30.out) (by first | exact ND.out _ hb6 _ (.inl rfl) | exact ND.out _ hb6 _ (.inr rfl) | exact ND.out _ hb6 _ (.inr trivial)) (pl_one11 _) (by first | exact P5.out | exact P7.out) (by first | exact P6.out | exact P8.out) hb6.size ?_); intro v7 w7 hown7 hgrow7 hnil7; have hb7 : Below wd.heap.size wd w7 := hb6.grown hgrow7 hb6.size (fun j hj => (hown6.lt j hj).1)))
                all_goals
                  have hown8 : w7.ownsRow wd.heap.size 29 5 v7 (n + 1) (plV (es.take q ++ [⟨p, Ap, d⟩] ++ es.drop q)) := by
                    have e : 0 + q + 1 + (n - q) = n + 1 := by have := HQN.out; omega
                    have e' : 0 + q + 1 + 0 = n + 1 ∨ True := .inr trivial
                    have e2 : plV (es.take q ++ [⟨p, Ap, d⟩] ++ es.drop q) = (#[] : Array Value).toList ++ plV (es.take q) ++ encE11 ⟨p, Ap, d⟩ ++ plV (es.drop q) := by rw [plV_app, plV_app, plV_one]; simp
                    rw [e2]
                    first
                      | (rw [← e]; exact hown7)
                      | (have e9 : 0 + q + 1 + 0 = q + 1 := by omega
                         rw [e9] at hown7; exact hown7)
                  obtain ⟨g7, c7, hv7, _, _⟩ := World.ownsRow.form hown8 (by omega)
                  subst hv7
                  clear hown7 hown6 hown5 hgrow5 hgrow6 hgrow7 hnil5 hnil6 hnil7 hb5 hb6
                  go_wp2_with fail
                  go_meet
                all_goals exact ⟨⟨g7, c7, rfl, hown8⟩, hb7⟩
              case rest =>
                obtain ⟨⟨g8, c8, rfl, hrow⟩, hb8⟩ := hcut
                obtain ⟨w8, rfl⟩ : ∃ w8 : World, w8 = wc := ⟨_, rfl⟩
                have hbw8 := bstep9 HBD.out HBD.out.size hb8
                have hpl : PlAt w8 w8.heap.size (some ⟨g8, 0, none⟩) (n + 1) zs := by
                  rw [HINS.out, ← HPL.out, ← insP_pls es ⟨p, Ap, d⟩ q]
                  exact pl_of_row hrow (fun e he => by
                    rw [List.mem_append, List.mem_append, List.mem_singleton] at he
                    rcases he with (he | rfl) | he
                    · exact ⟨((HNS.out e (List.mem_of_mem_take he)).1).grow hb8, (HNS.out e (List.mem_of_mem_take he)).2⟩
                    · exact ⟨(HNM.out.grow hbw8), HD.out⟩
                    · exact ⟨((HNS.out e (List.mem_of_mem_drop he)).1).grow hb8, (HNS.out e (List.mem_of_mem_drop he)).2⟩)
                have CRZ := Lib.hid (cIsReg_spec (some ⟨g8, 0, none⟩) (n + 1) c8 zs w8 (by omega) HSZ.out hpl)
                have COZ := Lib.hid (fun W (hW : Below w8.heap.size w8 W) => cOwnPl (some ⟨g8, 0, none⟩) (n + 1) c8 zs W (by omega) HSZ.out (hpl.grow hW))
                have HBW8 := Lib.hid hbw8
                clear hrow hb8 hpl hbw8
                rcases HCODE.out with ⟨er, ec⟩ | ⟨er, ec⟩
                · rw [er] at CRZ
                  obtain rfl : az = zs := HADZ.out.1 ec
                  subst ec
                  clear er HADZ
                  go_wp2_with fail
                  refine CRZ.out.mono ?_
                  rintro e w9 ⟨rfl, g9⟩
                  have CO9 := Lib.hid (COZ.out w9 g9)
                  have hb9 := bstep9 HBW8.out HBW8.out.size g9
                  go_wp2_with fail
                  refine CO9.out.mono ?_
                  rintro e w10 ⟨C, cc, es9, rfl, hes9, how, g10⟩
                  have hb10 := bstep9 hb9 hb9.size g10
                  have HOW := Lib.hid (how.down hb9.size)
                  clear how
                  go_wp2_with fail
                  go_ret2
                  exact ⟨C, n + 1, cc, es9, rfl, hes9, HOW.out, hb10⟩
                · rw [er] at CRZ
                  obtain rfl : az = [] := HADZ.out.2 (by rw [ec]; decide)
                  subst ec
                  clear er HADZ
                  go_wp2_with fail
                  refine CRZ.out.mono ?_
                  rintro e w9 ⟨rfl, g9⟩
                  have hb9 := bstep9 HBW8.out HBW8.out.size g9
                  go_wp2_with fail
                  go_ret2
                  exact ⟨none, 0, 0, [], rfl, rfl, OwnP.none12 _ _ _, hb9⟩
            · obtain rfl : q = n := by omega
              have HKQ : Hid (q = q) := Lib.hid rfl
              have u3 : decide ((q : Int) < (q : Int)) = false := decide_eq_false (by omega)
              have v3 : (q : Int) ≤ (c : Int) := by omega
              by_cases hcc : c = q
              · obtain rfl : q = c := hcc.symm
                go_wp2_with fail
                go_quiet (fail)
                go_wp2_with fail
                obtain ⟨wd, hwd⟩ : ∃ wd : World, wd = wr.drewN nq := ⟨_, rfl⟩
                have hbd : Below w.heap.size w wd := by rw [hwd]; exact below_drewN11 HBW.out _
                have hb2d : Below w2.heap.size w2 wd := by rw [hwd]; exact below_drewN11 hbw _
                have HXD := Lib.hid (HX2.out.next hb2d)
                obtain ⟨x0, x1, x2, x3, x4, _⟩ := HXD.out.five
                have hxlt := HXD.out.1
                obtain ⟨es, hes, hps⟩ := ps_of_pl (H.out.grow hbd)
                have HES := Lib.hid hps.len
                have HNS := Lib.hid hps.names
                have HPL := Lib.hid hes
                have HBD := Lib.hid hbd
                rw [← hwd]
                have HCL : Hid (∀ (j : Nat) u, (plV es)[j]? = some u → wd.cell? ((⟨g, 0, none⟩ : Addr).add j) = some u) := Lib.hid (fun j u hu => hps.cells _ rfl j u hu)
                have HGL : Hid (g < wd.heap.size) := Lib.hid (Nat.lt_of_lt_of_le hgl hbd.size)
                clear hwd hbd hb2d hps hes y0 y1 y2 y3 y4
                have NT : Hid (∀ W, Below wd.heap.size wd W → ∀ ad, some (⟨g, 0, none⟩ : Addr) = some ad → ∀ j u, (plV (es.take q))[j]? = some u → W.cell? (ad.add j) = some u) := Lib.hid (fun W hW ad e j u hu => by
                  obtain rfl := Option.some.inj e
                  have h1 := HCL.out j u (take_plV hu)
                  rw [add_plain'] at h1 ⊢
                  exact (hW.cell (p := ⟨g, 0 + j, none⟩) HGL.out).trans h1)
                have ND : Hid (∀ W, Below wd.heap.size wd W → ∀ oa : Option Addr, (oa = some ⟨g, q * 5, none⟩ ∨ q = q) → ∀ ad, oa = some ad → ∀ j u, (plV (es.drop q))[j]? = some u → W.cell? (ad.add j) = some u) := Lib.hid (fun W hW oa hor ad e j u hu => by
                  rcases hor with h0 | h0
                  · rw [h0] at e
                    obtain rfl := Option.some.inj e
                    have h1 := HCL.out (q * 5 + j) u (drop_plV hu)
                    rw [add_plain'] at h1 ⊢
                    rw [Nat.zero_add] at h1
                    exact (hW.cell (p := ⟨g, q * 5 + j, none⟩) HGL.out).trans h1
                  · have := (List.getElem?_eq_some_iff.1 hu).1
                    rw [plV_len, List.length_drop] at this
                    have := HES.out
                    omega)
                have BA : Hid (Below wd.heap.size wd ((wd.alloc (.cells #[] 29)).drew)) := Lib.hid ((Below.refl _ _).alloc (Nat.le_refl _) _).drew
                have BC : Hid (Below wd.heap.size wd (((wd.alloc (.cells #[] 29)).drew).alloc (.cells #[.string p.c, .int .i64 p.k, .int .i64 p.f, .int .i64 p.u, .slice Ap p.ns.length d] 29))) := Lib.hid (BA.out.alloc BA.out.size _)
                have BF0 : Below wd.heap.size wd ((wd.alloc (.cells #[.string p.c, .int .i64 p.k, .int .i64 p.f, .int .i64 p.u, .slice Ap p.ns.length d] 29)).drew) := ((Below.refl _ _).alloc (Nat.le_refl _) _).drew
                have BF : Hid (Below wd.heap.size wd (((wd.alloc (.cells #[.string p.c, .int .i64 p.k, .int .i64 p.f, .int .i64 p.u, .slice Ap p.ns.length d] 29)).drew).alloc (.cells #[] 29))) := Lib.hid (BF0.alloc BF0.size _)
                have OA : Hid (((wd.alloc (.cells #[] 29)).drew).ownsRow wd.heap.size 29 5 (.slice (some ⟨wd.heap.size, 0, none⟩) 0 0) 0 (#[] : Array Value).toList) := Lib.hid (World.ownsRow_lit (e := 29) (base := wd.heap.size) (size := 5) wd #[] 0 (Nat.le_refl _) (by decide) rfl)
                have OC : Hid ((((wd.alloc (.cells #[] 29)).drew).alloc (.cells #[.string p.c, .int .i64 p.k, .int .i64 p.f, .int .i64 p.u, .slice Ap p.ns.length d] 29)).ownsRow wd.heap.size 29 5 (.slice (some ⟨wd.heap.size, 0, none⟩) 0 0) 0 (#[] : Array Value).toList) := Lib.hid (OA.out.alloc _)
                have hs1 : ((wd.alloc (.cells #[.string p.c, .int .i64 p.k, .int .i64 p.f, .int .i64 p.u, .slice Ap p.ns.length d] 29)).drew).heap.size = wd.heap.size + 1 := by simp
                have hsA : ((wd.alloc (.cells #[] 29)).drew).heap.size = wd.heap.size + 1 := by simp
                have OF : Hid ((((wd.alloc (.cells #[.string p.c, .int .i64 p.k, .int .i64 p.f, .int .i64 p.u, .slice Ap p.ns.length d] 29)).drew).alloc (.cells #[] 29)).ownsRow wd.heap.size 29 5 (.slice (some ⟨wd.heap.size + 1, 0, none⟩) 0 0) 0 (#[] : Array Value).toList) := Lib.hid (by
                  have h := World.ownsRow_lit (e := 29) (base := wd.heap.size) (size := 5) ((wd.alloc (.cells #[.string p.c, .int .i64 p.k, .int .i64 p.f, .int .i64 p.u, .slice Ap p.ns.length d] 29)).drew) #[] 0 (by omega) (by decide) rfl
                  rw [hs1] at h
                  exact h)
                have XC : Hid (Bx (((wd.alloc (.cells #[] 29)).drew).alloc (.cells #[.string p.c, .int .i64 p.k, .int .i64 p.f, .int .i64 p.u, .slice Ap p.ns.length d] 29)) (wd.heap.size + 1) (encE11 ⟨p, Ap, d⟩)) := Lib.hid (by
                  have h := Bx.new ((wd.alloc (.cells #[] 29)).drew) #[.string p.c, .int .i64 p.k, .int .i64 p.f, .int .i64 p.u, .slice Ap p.ns.length d] 29
                  rw [hsA] at h
                  exact h)
                have XF : Hid (Bx (((wd.alloc (.cells #[.string p.c, .int .i64 p.k, .int .i64 p.f, .int .i64 p.u, .slice Ap p.ns.length d] 29)).drew).alloc (.cells #[] 29)) wd.heap.size (encE11 ⟨p, Ap, d⟩)) := Lib.hid (((Bx.new wd #[.string p.c, .int .i64 p.k, .int .i64 p.f, .int .i64 p.u, .slice Ap p.ns.length d] 29).drew).alloc _)
                have KC : Hid (∀ W, (((wd.alloc (.cells #[] 29)).drew).alloc (.cells #[.string p.c, .int .i64 p.k, .int .i64 p.f, .int .i64 p.u, .slice Ap p.ns.length d] 29)).grownBy W (Value.slice (some ⟨wd.heap.size, 0, none⟩) 0 0).ownBlock → ∀ ad, some (⟨wd.heap.size + 1, 0, none⟩ : Addr) = some ad → ∀ j u, (encE11 ⟨p, Ap, d⟩)[j]? = some u → W.cell? (ad.add j) = some u) := Lib.hid (fun W hW => bx_add (XC.out.grown hW (by simp)))
                have KF : Hid (∀ W, (((wd.alloc (.cells #[.string p.c, .int .i64 p.k, .int .i64 p.f, .int .i64 p.u, .slice Ap p.ns.length d] 29)).drew).alloc (.cells #[] 29)).grownBy W (Value.slice (some ⟨wd.heap.size + 1, 0, none⟩) 0 0).ownBlock → ∀ ad, some (⟨wd.heap.size, 0, none⟩ : Addr) = some ad → ∀ j u, (encE11 ⟨p, Ap, d⟩)[j]? = some u → W.cell? (ad.add j) = some u) := Lib.hid (fun W hW => bx_add (XF.out.grown hW (by simp)))
                have KN : Hid (∀ W : World, ∀ ad, some (⟨W.heap.size, 0, none⟩ : Addr) = some ad → ∀ j u, (encE11 ⟨p, Ap, d⟩)[j]? = some u → (W.alloc (.cells #[.string p.c, .int .i64 p.k, .int .i64 p.f, .int .i64 p.u, .slice Ap p.ns.length d] 29)).cell? (ad.add j) = some u) := Lib.hid (fun W => bx_add (Bx.new W #[.string p.c, .int .i64 p.k, .int .i64 p.f, .int .i64 p.u, .slice Ap p.ns.length d] 29))
                have L1 : Hid ((plV (es.take q)).length = q * 5) := Lib.hid (by rw [plV_len, List.length_take]; have := HES.out; omega)
                have L3 : Hid ((plV (es.drop q)).length = (q - q) * 5) := Lib.hid (by rw [plV_len, List.length_drop]; have := HES.out; omega)
                have L30 : Hid ((plV (es.drop q)).length = 0 * 5) := Lib.hid (by rw [plV_len, List.length_drop]; have := HES.out; omega)
                have P1 : Hid (0 + q ≤ maxLen) := Lib.hid (by unfold maxLen; omega)
                have P2 : Hid ((0 + q) * 64 ≤ 140737488355328) := Lib.hid (by omega)
                have P3 : Hid (0 + q + 1 ≤ maxLen) := Lib.hid (by unfold maxLen; omega)
                have P4 : Hid ((0 + q + 1) * 64 ≤ 140737488355328) := Lib.hid (by omega)
                have P5 : Hid (0 + q + 1 + (q - q) ≤ maxLen) := Lib.hid (by unfold maxLen; omega)
                have P6 : Hid ((0 + q + 1 + (q - q)) * 64 ≤ 140737488355328) := Lib.hid (by omega)
                have P7 : Hid (0 + q + 1 + 0 ≤ maxLen) := Lib.hid (by unfold maxLen; omega)
                have P8 : Hid ((0 + q + 1 + 0) * 64 ≤ 140737488355328) := Lib.hid (by omega)
                have LE1 : Hid ((encE11 ⟨p, Ap, d⟩).length = 1 * 5) := Lib.hid rfl
                have ON1 : Hid (∀ u ∈ encE11 ⟨p, Ap, d⟩, u.oneCell' = true) := Lib.hid (fun u hu => pl_one11 [⟨p, Ap, d⟩] u (by rw [plV_one]; exact hu))
                obtain ⟨xa0, xa1, xa2, xa3, xa4, _⟩ := (HXD.out.next BA.out).five
                clear BF0 hs1 hsA
                go_cut [7] (fun v wx => (∃ C cc, v = .slice (some ⟨C, 0, none⟩) (q + 1) cc ∧ wx.ownsRow wd.heap.size 29 5 v (q + 1) (plV (es.take q ++ [⟨p, Ap, d⟩] ++ es.drop q))) ∧ Below wd.heap.size wd wx)
                case first =>
                  go_region_law (first
                    | ((refine step_append_x rfl (.tmp 32) (.tmp 35) 24 rfl wd.heap.size 29 i0 _ 5 64 Tryz.underlying24 hi0 hz0 hz1 hz2 rfl (by decide) _ 0 _ rfl (by first | exact OA.out | exact OC.out | exact OF.out) _ q _ (plV (es.take q)) rfl (by first | exact fun _ => HQ0.out | exact fun e => (by cases e)) L1.out (by first | exact NT.out _ BA.out | exact NT.out _ BC.out | exact NT.out _ BF.out) (pl_one11 _) P1.out P2.out (by first | exact BA.out.size | exact BC.out.size | exact BF.out.size) ?_); intro v5 w5 hown5 hgrow5 hnil5; have hb5 : Below wd.heap.size wd w5 := (by first | exact BA.out.grown hgrow5 BA.out.size (fun j hj => (OA.out.lt j hj).1) | exact BC.out.grown hgrow5 BC.out.size (fun j hj => (OC.out.lt j hj).1) | exact BF.out.grown hgrow5 BF.out.size (fun j hj => (OF.out.lt j hj).1)); obtain ⟨x50, x51, x52, x53, x54, _⟩ := (HXD.out.next hb5).five)
                    | ((refine step_append_x rfl (.tmp 36) (.tmp 38) 24 rfl wd.heap.size 29 i0 _ 5 64 Tryz.underlying24 hi0 hz0 hz1 hz2 rfl (by decide) _ _ _ rfl (by first | exact hown5 | exact hown5.alloc _) _ 1 1 (encE11 ⟨p, Ap, d⟩) rfl (fun e => by cases e) LE1.out (by first | exact KN.out w5 | exact KC.out w5 hgrow5 | exact KF.out w5 hgrow5) ON1.out P3.out P4.out (by first | exact hb5.size | exact (hb5.alloc hb5.size _).size) ?_); intro v6 w6 hown6 hgrow6 hnil6; have hb6 : Below wd.heap.size wd w6 := (by first | exact hb5.grown hgrow6 hb5.size (fun j hj => (hown5.lt j hj).1) | exact (hb5.alloc hb5.size _).grown hgrow6 (hb5.alloc hb5.size _).size (fun j hj => (hown5.lt j hj).1)))
                    | ((refine step_append_x rfl (.tmp 39) (.tmp 42) 24 rfl wd.heap.size 29 i0 _ 5 64 Tryz.underlying24 hi0 hz0 hz1 hz2 rfl (by decide) _ _ _ rfl hown6 _ _ _ (plV (es.drop q)) rfl (by first | exact fun _ => HQ0.out | exact fun _ => rfl | exact fun e => (by cases e)) (by first | exact L3.out | exact L30.out) (by first | exact ND.out _ hb6 _ (.inl rfl) | exact ND.out _ hb6 _ (.inr rfl) | exact ND.out _ hb6 _ (.inr trivial)) (pl_one11 _) (by first | exact P5.out | exact P7.out) (by first | exact P6.out | exact P8.out) hb6.size ?_); intro v7 w7 hown7 hgrow7 hnil7; have hb7 : Below wd.heap.size wd w7 := hb6.grown hgrow7 hb6.size (fun j hj => (hown6.lt j hj).1)))
                  all_goals
                    have hown8 : w7.ownsRow wd.heap.size 29 5 v7 (q + 1) (plV (es.take q ++ [⟨p, Ap, d⟩] ++ es.drop q)) := by
                      have e : 0 + q + 1 + (q - q) = q + 1 := by omega
                      have e' : 0 + q + 1 + 0 = q + 1 ∨ True := .inr trivial
                      have e2 : plV (es.take q ++ [⟨p, Ap, d⟩] ++ es.drop q) = (#[] : Array Value).toList ++ plV (es.take q) ++ encE11 ⟨p, Ap, d⟩ ++ plV (es.drop q) := by rw [plV_app, plV_app, plV_one]; simp
                      rw [e2]
                      first
                        | (rw [← e]; exact hown7)
                        | (have e9 : 0 + q + 1 + 0 = q + 1 := by omega
                           rw [e9] at hown7; exact hown7)
                    obtain ⟨g7, c7, hv7, _, _⟩ := World.ownsRow.form hown8 (by omega)
                    subst hv7
                    clear hown7 hown6 hown5 hgrow5 hgrow6 hgrow7 hnil5 hnil6 hnil7 hb5 hb6
                    go_wp2_with fail
                    go_meet
                  all_goals exact ⟨⟨g7, c7, rfl, hown8⟩, hb7⟩
                case rest =>
                  obtain ⟨⟨g8, c8, rfl, hrow⟩, hb8⟩ := hcut
                  obtain ⟨w8, rfl⟩ : ∃ w8 : World, w8 = wc := ⟨_, rfl⟩
                  have hbw8 := bstep9 HBD.out HBD.out.size hb8
                  have hpl : PlAt w8 w8.heap.size (some ⟨g8, 0, none⟩) (q + 1) zs := by
                    rw [HINS.out, ← HPL.out, ← insP_pls es ⟨p, Ap, d⟩ q]
                    exact pl_of_row hrow (fun e he => by
                      rw [List.mem_append, List.mem_append, List.mem_singleton] at he
                      rcases he with (he | rfl) | he
                      · exact ⟨((HNS.out e (List.mem_of_mem_take he)).1).grow hb8, (HNS.out e (List.mem_of_mem_take he)).2⟩
                      · exact ⟨(HNM.out.grow hbw8), HD.out⟩
                      · exact ⟨((HNS.out e (List.mem_of_mem_drop he)).1).grow hb8, (HNS.out e (List.mem_of_mem_drop he)).2⟩)
                  have CRZ := Lib.hid (cIsReg_spec (some ⟨g8, 0, none⟩) (q + 1) c8 zs w8 (by omega) HSZ.out hpl)
                  have COZ := Lib.hid (fun W (hW : Below w8.heap.size w8 W) => cOwnPl (some ⟨g8, 0, none⟩) (q + 1) c8 zs W (by omega) HSZ.out (hpl.grow hW))
                  have HBW8 := Lib.hid hbw8
                  clear hrow hb8 hpl hbw8
                  rcases HCODE.out with ⟨er, ec⟩ | ⟨er, ec⟩
                  · rw [er] at CRZ
                    obtain rfl : az = zs := HADZ.out.1 ec
                    subst ec
                    clear er HADZ
                    go_wp2_with fail
                    refine CRZ.out.mono ?_
                    rintro e w9 ⟨rfl, g9⟩
                    have CO9 := Lib.hid (COZ.out w9 g9)
                    have hb9 := bstep9 HBW8.out HBW8.out.size g9
                    go_wp2_with fail
                    refine CO9.out.mono ?_
                    rintro e w10 ⟨C, cc, es9, rfl, hes9, how, g10⟩
                    have hb10 := bstep9 hb9 hb9.size g10
                    have HOW := Lib.hid (how.down hb9.size)
                    clear how
                    go_wp2_with fail
                    go_ret2
                    exact ⟨C, q + 1, cc, es9, rfl, hes9, HOW.out, hb10⟩
                  · rw [er] at CRZ
                    obtain rfl : az = [] := HADZ.out.2 (by rw [ec]; decide)
                    subst ec
                    clear er HADZ
                    go_wp2_with fail
                    refine CRZ.out.mono ?_
                    rintro e w9 ⟨rfl, g9⟩
                    have hb9 := bstep9 HBW8.out HBW8.out.size g9
                    go_wp2_with fail
                    go_ret2
                    exact ⟨none, 0, 0, [], rfl, rfl, OwnP.none12 _ _ _, hb9⟩
              · skip
                go_wp2_with fail
                go_quiet (fail)
                go_wp2_with fail
                obtain ⟨wd, hwd⟩ : ∃ wd : World, wd = wr.drewN nq := ⟨_, rfl⟩
                have hbd : Below w.heap.size w wd := by rw [hwd]; exact below_drewN11 HBW.out _
                have hb2d : Below w2.heap.size w2 wd := by rw [hwd]; exact below_drewN11 hbw _
                have HXD := Lib.hid (HX2.out.next hb2d)
                obtain ⟨x0, x1, x2, x3, x4, _⟩ := HXD.out.five
                have hxlt := HXD.out.1
                obtain ⟨es, hes, hps⟩ := ps_of_pl (H.out.grow hbd)
                have HES := Lib.hid hps.len
                have HNS := Lib.hid hps.names
                have HPL := Lib.hid hes
                have HBD := Lib.hid hbd
                rw [← hwd]
                have HCL : Hid (∀ (j : Nat) u, (plV es)[j]? = some u → wd.cell? ((⟨g, 0, none⟩ : Addr).add j) = some u) := Lib.hid (fun j u hu => hps.cells _ rfl j u hu)
                have HGL : Hid (g < wd.heap.size) := Lib.hid (Nat.lt_of_lt_of_le hgl hbd.size)
                clear hwd hbd hb2d hps hes y0 y1 y2 y3 y4
                have NT : Hid (∀ W, Below wd.heap.size wd W → ∀ ad, some (⟨g, 0, none⟩ : Addr) = some ad → ∀ j u, (plV (es.take q))[j]? = some u → W.cell? (ad.add j) = some u) := Lib.hid (fun W hW ad e j u hu => by
                  obtain rfl := Option.some.inj e
                  have h1 := HCL.out j u (take_plV hu)
                  rw [add_plain'] at h1 ⊢
                  exact (hW.cell (p := ⟨g, 0 + j, none⟩) HGL.out).trans h1)
                have ND : Hid (∀ W, Below wd.heap.size wd W → ∀ oa : Option Addr, (oa = some ⟨g, q * 5, none⟩ ∨ q = q) → ∀ ad, oa = some ad → ∀ j u, (plV (es.drop q))[j]? = some u → W.cell? (ad.add j) = some u) := Lib.hid (fun W hW oa hor ad e j u hu => by
                  rcases hor with h0 | h0
                  · rw [h0] at e
                    obtain rfl := Option.some.inj e
                    have h1 := HCL.out (q * 5 + j) u (drop_plV hu)
                    rw [add_plain'] at h1 ⊢
                    rw [Nat.zero_add] at h1
                    exact (hW.cell (p := ⟨g, q * 5 + j, none⟩) HGL.out).trans h1
                  · have := (List.getElem?_eq_some_iff.1 hu).1
                    rw [plV_len, List.length_drop] at this
                    have := HES.out
                    omega)
                have BA : Hid (Below wd.heap.size wd ((wd.alloc (.cells #[] 29)).drew)) := Lib.hid ((Below.refl _ _).alloc (Nat.le_refl _) _).drew
                have BC : Hid (Below wd.heap.size wd (((wd.alloc (.cells #[] 29)).drew).alloc (.cells #[.string p.c, .int .i64 p.k, .int .i64 p.f, .int .i64 p.u, .slice Ap p.ns.length d] 29))) := Lib.hid (BA.out.alloc BA.out.size _)
                have BF0 : Below wd.heap.size wd ((wd.alloc (.cells #[.string p.c, .int .i64 p.k, .int .i64 p.f, .int .i64 p.u, .slice Ap p.ns.length d] 29)).drew) := ((Below.refl _ _).alloc (Nat.le_refl _) _).drew
                have BF : Hid (Below wd.heap.size wd (((wd.alloc (.cells #[.string p.c, .int .i64 p.k, .int .i64 p.f, .int .i64 p.u, .slice Ap p.ns.length d] 29)).drew).alloc (.cells #[] 29))) := Lib.hid (BF0.alloc BF0.size _)
                have OA : Hid (((wd.alloc (.cells #[] 29)).drew).ownsRow wd.heap.size 29 5 (.slice (some ⟨wd.heap.size, 0, none⟩) 0 0) 0 (#[] : Array Value).toList) := Lib.hid (World.ownsRow_lit (e := 29) (base := wd.heap.size) (size := 5) wd #[] 0 (Nat.le_refl _) (by decide) rfl)
                have OC : Hid ((((wd.alloc (.cells #[] 29)).drew).alloc (.cells #[.string p.c, .int .i64 p.k, .int .i64 p.f, .int .i64 p.u, .slice Ap p.ns.length d] 29)).ownsRow wd.heap.size 29 5 (.slice (some ⟨wd.heap.size, 0, none⟩) 0 0) 0 (#[] : Array Value).toList) := Lib.hid (OA.out.alloc _)
                have hs1 : ((wd.alloc (.cells #[.string p.c, .int .i64 p.k, .int .i64 p.f, .int .i64 p.u, .slice Ap p.ns.length d] 29)).drew).heap.size = wd.heap.size + 1 := by simp
                have hsA : ((wd.alloc (.cells #[] 29)).drew).heap.size = wd.heap.size + 1 := by simp
                have OF : Hid ((((wd.alloc (.cells #[.string p.c, .int .i64 p.k, .int .i64 p.f, .int .i64 p.u, .slice Ap p.ns.length d] 29)).drew).alloc (.cells #[] 29)).ownsRow wd.heap.size 29 5 (.slice (some ⟨wd.heap.size + 1, 0, none⟩) 0 0) 0 (#[] : Array Value).toList) := Lib.hid (by
                  have h := World.ownsRow_lit (e := 29) (base := wd.heap.size) (size := 5) ((wd.alloc (.cells #[.string p.c, .int .i64 p.k, .int .i64 p.f, .int .i64 p.u, .slice Ap p.ns.length d] 29)).drew) #[] 0 (by omega) (by decide) rfl
                  rw [hs1] at h
                  exact h)
                have XC : Hid (Bx (((wd.alloc (.cells #[] 29)).drew).alloc (.cells #[.string p.c, .int .i64 p.k, .int .i64 p.f, .int .i64 p.u, .slice Ap p.ns.length d] 29)) (wd.heap.size + 1) (encE11 ⟨p, Ap, d⟩)) := Lib.hid (by
                  have h := Bx.new ((wd.alloc (.cells #[] 29)).drew) #[.string p.c, .int .i64 p.k, .int .i64 p.f, .int .i64 p.u, .slice Ap p.ns.length d] 29
                  rw [hsA] at h
                  exact h)
                have XF : Hid (Bx (((wd.alloc (.cells #[.string p.c, .int .i64 p.k, .int .i64 p.f, .int .i64 p.u, .slice Ap p.ns.length d] 29)).drew).alloc (.cells #[] 29)) wd.heap.size (encE11 ⟨p, Ap, d⟩)) := Lib.hid (((Bx.new wd #[.string p.c, .int .i64 p.k, .int .i64 p.f, .int .i64 p.u, .slice Ap p.ns.length d] 29).drew).alloc _)
                have KC : Hid (∀ W, (((wd.alloc (.cells #[] 29)).drew).alloc (.cells #[.string p.c, .int .i64 p.k, .int .i64 p.f, .int .i64 p.u, .slice Ap p.ns.length d] 29)).grownBy W (Value.slice (some ⟨wd.heap.size, 0, none⟩) 0 0).ownBlock → ∀ ad, some (⟨wd.heap.size + 1, 0, none⟩ : Addr) = some ad → ∀ j u, (encE11 ⟨p, Ap, d⟩)[j]? = some u → W.cell? (ad.add j) = some u) := Lib.hid (fun W hW => bx_add (XC.out.grown hW (by simp)))
                have KF : Hid (∀ W, (((wd.alloc (.cells #[.string p.c, .int .i64 p.k, .int .i64 p.f, .int .i64 p.u, .slice Ap p.ns.length d] 29)).drew).alloc (.cells #[] 29)).grownBy W (Value.slice (some ⟨wd.heap.size + 1, 0, none⟩) 0 0).ownBlock → ∀ ad, some (⟨wd.heap.size, 0, none⟩ : Addr) = some ad → ∀ j u, (encE11 ⟨p, Ap, d⟩)[j]? = some u → W.cell? (ad.add j) = some u) := Lib.hid (fun W hW => bx_add (XF.out.grown hW (by simp)))
                have KN : Hid (∀ W : World, ∀ ad, some (⟨W.heap.size, 0, none⟩ : Addr) = some ad → ∀ j u, (encE11 ⟨p, Ap, d⟩)[j]? = some u → (W.alloc (.cells #[.string p.c, .int .i64 p.k, .int .i64 p.f, .int .i64 p.u, .slice Ap p.ns.length d] 29)).cell? (ad.add j) = some u) := Lib.hid (fun W => bx_add (Bx.new W #[.string p.c, .int .i64 p.k, .int .i64 p.f, .int .i64 p.u, .slice Ap p.ns.length d] 29))
                have L1 : Hid ((plV (es.take q)).length = q * 5) := Lib.hid (by rw [plV_len, List.length_take]; have := HES.out; omega)
                have L3 : Hid ((plV (es.drop q)).length = (q - q) * 5) := Lib.hid (by rw [plV_len, List.length_drop]; have := HES.out; omega)
                have L30 : Hid ((plV (es.drop q)).length = 0 * 5) := Lib.hid (by rw [plV_len, List.length_drop]; have := HES.out; omega)
                have P1 : Hid (0 + q ≤ maxLen) := Lib.hid (by unfold maxLen; omega)
                have P2 : Hid ((0 + q) * 64 ≤ 140737488355328) := Lib.hid (by omega)
                have P3 : Hid (0 + q + 1 ≤ maxLen) := Lib.hid (by unfold maxLen; omega)
                have P4 : Hid ((0 + q + 1) * 64 ≤ 140737488355328) := Lib.hid (by omega)
                have P5 : Hid (0 + q + 1 + (q - q) ≤ maxLen) := Lib.hid (by unfold maxLen; omega)
                have P6 : Hid ((0 + q + 1 + (q - q)) * 64 ≤ 140737488355328) := Lib.hid (by omega)
                have P7 : Hid (0 + q + 1 + 0 ≤ maxLen) := Lib.hid (by unfold maxLen; omega)
                have P8 : Hid ((0 + q + 1 + 0) * 64 ≤ 140737488355328) := Lib.hid (by omega)
                have LE1 : Hid ((encE11 ⟨p, Ap, d⟩).length = 1 * 5) := Lib.hid rfl
                have ON1 : Hid (∀ u ∈ encE11 ⟨p, Ap, d⟩, u.oneCell' = true) := Lib.hid (fun u hu => pl_one11 [⟨p, Ap, d⟩] u (by rw [plV_one]; exact hu))
                obtain ⟨xa0, xa1, xa2, xa3, xa4, _⟩ := (HXD.out.next BA.out).five
                clear BF0 hs1 hsA
                go_cut [7] (fun v wx => (∃ C cc, v = .slice (some ⟨C, 0, none⟩) (q + 1) cc ∧ wx.ownsRow wd.heap.size 29 5 v (q + 1) (plV (es.take q ++ [⟨p, Ap, d⟩] ++ es.drop q))) ∧ Below wd.heap.size wd wx)
                case first =>
                  go_region_law (first
                    | ((refine step_append_x rfl (.tmp 32) (.tmp 35) 24 rfl wd.heap.size 29 i0 _ 5 64 Tryz.underlying24 hi0 hz0 hz1 hz2 rfl (by decide) _ 0 _ rfl (by first | exact OA.out | exact OC.out | exact OF.out) _ q _ (plV (es.take q)) rfl (by first | exact fun _ => HQ0.out | exact fun e => (by cases e)) L1.out (by first | exact NT.out _ BA.out | exact NT.out _ BC.out | exact NT.out _ BF.out) (pl_one11 _) P1.out P2.out (by first | exact BA.out.size | exact BC.out.size | exact BF.out.size) ?_); intro v5 w5 hown5 hgrow5 hnil5; have hb5 : Below wd.heap.size wd w5 := (by first | exact BA.out.grown hgrow5 BA.out.size (fun j hj => (OA.out.lt j hj).1) | exact BC.out.grown hgrow5 BC.out.size (fun j hj => (OC.out.lt j hj).1) | exact BF.out.grown hgrow5 BF.out.size (fun j hj => (OF.out.lt j hj).1)); obtain ⟨x50, x51, x52, x53, x54, _⟩ := (HXD.out.next hb5).five)
                    | ((refine step_append_x rfl (.tmp 36) (.tmp 38) 24 rfl wd.heap.size 29 i0 _ 5 64 Tryz.underlying24 hi0 hz0 hz1 hz2 rfl (by decide) _ _ _ rfl (by first | exact hown5 | exact hown5.alloc _) _ 1 1 (encE11 ⟨p, Ap, d⟩) rfl (fun e => by cases e) LE1.out (by first | exact KN.out w5 | exact KC.out w5 hgrow5 | exact KF.out w5 hgrow5) ON1.out P3.out P4.out (by first | exact hb5.size | exact (hb5.alloc hb5.size _).size) ?_); intro v6 w6 hown6 hgrow6 hnil6; have hb6 : Below wd.heap.size wd w6 := (by first | exact hb5.grown hgrow6 hb5.size (fun j hj => (hown5.lt j hj).1) | exact (hb5.alloc hb5.size _).grown hgrow6 (hb5.alloc hb5.size _).size (fun j hj => (hown5.lt j hj).1)))
                    | ((refine step_append_x rfl (.tmp 39) (.tmp 42) 24 rfl wd.heap.size 29 i0 _ 5 64 Tryz.underlying24 hi0 hz0 hz1 hz2 rfl (by decide) _ _ _ rfl hown6 _ _ _ (plV (es.drop q)) rfl (by first | exact fun _ => HQ0.out | exact fun _ => rfl | exact fun e => (by cases e)) (by first | exact L3.out | exact L30.out) (by first | exact ND.out _ hb6 _ (.inl rfl) | exact ND.out _ hb6 _ (.inr rfl) | exact ND.out _ hb6 _ (.inr trivial)) (pl_one11 _) (by first | exact P5.out | exact P7.out) (by first | exact P6.out | exact P8.out) hb6.size ?_); intro v7 w7 hown7 hgrow7 hnil7; have hb7 : Below wd.heap.size wd w7 := hb6.grown hgrow7 hb6.size (fun j hj => (hown6.lt j hj).1)))
                  all_goals
                    have hown8 : w7.ownsRow wd.heap.size 29 5 v7 (q + 1) (plV (es.take q ++ [⟨p, Ap, d⟩] ++ es.drop q)) := by
                      have e : 0 + q + 1 + (q - q) = q + 1 := by omega
                      have e' : 0 + q + 1 + 0 = q + 1 ∨ True := .inr trivial
                      have e2 : plV (es.take q ++ [⟨p, Ap, d⟩] ++ es.drop q) = (#[] : Array Value).toList ++ plV (es.take q) ++ encE11 ⟨p, Ap, d⟩ ++ plV (es.drop q) := by rw [plV_app, plV_app, plV_one]; simp
                      rw [e2]
                      first
                        | (rw [← e]; exact hown7)
                        | (have e9 : 0 + q + 1 + 0 = q + 1 := by omega
                           rw [e9] at hown7; exact hown7)
                    obtain ⟨g7, c7, hv7, _, _⟩ := World.ownsRow.form hown8 (by omega)
                    subst hv7
                    clear hown7 hown6 hown5 hgrow5 hgrow6 hgrow7 hnil5 hnil6 hnil7 hb5 hb6
                    go_wp2_with fail
                    go_meet
                  all_goals exact ⟨⟨g7, c7, rfl, hown8⟩, hb7⟩
                case rest =>
                  obtain ⟨⟨g8, c8, rfl, hrow⟩, hb8⟩ := hcut
                  obtain ⟨w8, rfl⟩ : ∃ w8 : World, w8 = wc := ⟨_, rfl⟩
                  have hbw8 := bstep9 HBD.out HBD.out.size hb8
                  have hpl : PlAt w8 w8.heap.size (some ⟨g8, 0, none⟩) (q + 1) zs := by
                    rw [HINS.out, ← HPL.out, ← insP_pls es ⟨p, Ap, d⟩ q]
                    exact pl_of_row hrow (fun e he => by
                      rw [List.mem_append, List.mem_append, List.mem_singleton] at he
                      rcases he with (he | rfl) | he
                      · exact ⟨((HNS.out e (List.mem_of_mem_take he)).1).grow hb8, (HNS.out e (List.mem_of_mem_take he)).2⟩
                      · exact ⟨(HNM.out.grow hbw8), HD.out⟩
                      · exact ⟨((HNS.out e (List.mem_of_mem_drop he)).1).grow hb8, (HNS.out e (List.mem_of_mem_drop he)).2⟩)
                  have CRZ := Lib.hid (cIsReg_spec (some ⟨g8, 0, none⟩) (q + 1) c8 zs w8 (by omega) HSZ.out hpl)
                  have COZ := Lib.hid (fun W (hW : Below w8.heap.size w8 W) => cOwnPl (some ⟨g8, 0, none⟩) (q + 1) c8 zs W (by omega) HSZ.out (hpl.grow hW))
                  have HBW8 := Lib.hid hbw8
                  clear hrow hb8 hpl hbw8
                  rcases HCODE.out with ⟨er, ec⟩ | ⟨er, ec⟩
                  · rw [er] at CRZ
                    obtain rfl : az = zs := HADZ.out.1 ec
                    subst ec
                    clear er HADZ
                    go_wp2_with fail
                    refine CRZ.out.mono ?_
                    rintro e w9 ⟨rfl, g9⟩
                    have CO9 := Lib.hid (COZ.out w9 g9)
                    have hb9 := bstep9 HBW8.out HBW8.out.size g9
                    go_wp2_with fail
                    refine CO9.out.mono ?_
                    rintro e w10 ⟨C, cc, es9, rfl, hes9, how, g10⟩
                    have hb10 := bstep9 hb9 hb9.size g10
                    have HOW := Lib.hid (how.down hb9.size)
                    clear how
                    go_wp2_with fail
                    go_ret2
                    exact ⟨C, q + 1, cc, es9, rfl, hes9, HOW.out, hb10⟩
                  · rw [er] at CRZ
                    obtain rfl : az = [] := HADZ.out.2 (by rw [ec]; decide)
                    subst ec
                    clear er HADZ
                    go_wp2_with fail
                    refine CRZ.out.mono ?_
                    rintro e w9 ⟨rfl, g9⟩
                    have hb9 := bstep9 HBW8.out HBW8.out.size g9
                    go_wp2_with fail
                    go_ret2
                    exact ⟨none, 0, 0, [], rfl, rfl, OwnP.none12 _ _ _, hb9⟩
end Go.Proofs.YtglmibmjbignbaaGreatDoor
