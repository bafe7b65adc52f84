/-
  The contract of EndPlace of the reference.
-/
import Derived.Test.YtkbkgbhnfopgnaaDoorPlCutS
import Derived.Test.YtkbkgbhnfopgnaaDoorPlOwnS
import Derived.Test.YtkbkgbhnfopgnaaDoorPlAdI
import Derived.Test.YtkbkgbhnfopgnaaDoorPlEnI
namespace Go.Proofs.YtkbkgbhnfopgnaaDoor
set_option linter.unusedVariables false
open Go.RowKit Go.Lib

set_option maxHeartbeats 4000000 in
set_option maxRecDepth 100000 in
theorem cEnd_spec (A : Option Addr) (n c : Nat) (ps : List Pl) (s : ByteArray) (y : Int) (w : World) (hb : n ≤ 1048576) (hz : Sz11 ps) (hs : s.size ≤ maxLen) (h : PlAt w w.heap.size A n ps) :
    Calls Tryd.prog 31 #[.slice A n c, .string s, .int .i64 y] w (OutPl (enZ ps s y) (enC ps s y) w) := by
  obtain ⟨i0, hi0, hz0, hz1, hz2⟩ := info_parts info_pl
  have CF := Lib.hid (cL11Code A n c ps s y w hb hz hs h)
  have CFD : Hid (regB ps = true → ∀ W, Below w.heap.size w W → Calls Tryd.prog 45 #[.slice A n c, .string s] W fun e w' => e = .returned (.int .i64 (fndZ ps s)) ∧ Below W.heap.size W w') := Lib.hid (fun hr W hW => cL11Find A n c ps s W hb (reg_of hr).2 (h.grow hW))
  have H := Lib.hid h
  have HN := Lib.hid h.1
  have HZ := Lib.hid hz
  clear h hs hz
  rcases en_cases ps s y with ⟨h1, h2⟩ | ⟨p, h1, hr, hy, hp, _, hpb, hfn, hex, h2⟩ | ⟨p, h1, hr, hy, hp, h0, hpb, hfn, hex, h2⟩
  · rw [enZ_no (by rw [h2]; exact h1), h2]
    obtain ⟨q, hq⟩ : ∃ q, q = pcC ps s y := ⟨_, rfl⟩
    rw [← hq] at CF
    rw [← hq] at h1 ⊢
    have hq0 : (q != 0) = true := by simpa using h1
    clear h1 h2 hq CFD
    go_enter Tryd.func31, Tryd.ntmps31
    go_wp2_with fail
    refine CF.out.mono ?_
    rintro e w1 ⟨rfl, g1⟩
    go_wp2_with fail
    go_ret2
    exact ⟨none, 0, 0, [], rfl, rfl, OwnP.none13 _ _ _, g1⟩
  · rw [enZ_no (by rw [h2]; decide), h2]
    rw [h1] at CF
    have CF2 := Lib.hid (CFD.out hr)
    rw [hfn] at CF2
    obtain ⟨hy1, hy2⟩ := yr_of hy
    obtain ⟨a, ha⟩ : ∃ a, a = atP ps s := ⟨_, rfl⟩
    rw [← ha] at CF2 hp
    have HEX := Lib.hid (fun A1 d1 W => cL11Ex p A1 d1 (y - 1) W)
    rw [hex] at HEX
    have hal : a < n := by have := (List.getElem?_eq_some_iff.1 hp).1; have := HN.out; omega
    have u1 : (0 : Int) ≤ (a : Int) := Int.natCast_nonneg _
    have u2 : (a : Int) < (n : Int) := by omega
    have HP := Lib.hid hp
    clear h1 h2 ha hex hpb hr CFD hp hfn
    go_enter Tryd.func31, Tryd.ntmps31
    go_wp2_with fail
    refine CF.out.mono ?_
    rintro e w1 ⟨rfl, g1⟩
    have CF3 := Lib.hid (CF2.out w1 g1)
    have HB1 := Lib.hid g1
    clear g1 CF2
    go_wp2_with fail
    refine CF3.out.mono ?_
    rintro e w2 ⟨rfl, g2⟩
    have hb2 := bstep9 HB1.out HB1.out.size g2
    obtain ⟨b, o, rfl, hbl, A1, d1, c0, c1, c2, c3, c4, hnm, hd1⟩ := (H.out.below hb2 (Nat.le_refl _)).row HP.out
    have HB2 := Lib.hid hb2
    have CX := Lib.hid (HEX.out A1 d1 w2)
    unfold plv11 at CX
    clear hnm g2 hb2 CF3
    go_wp2_with fail
    refine CX.out.mono ?_
    rintro e w4 ⟨rfl, g4⟩
    have hb4 := bstep9 HB2.out HB2.out.size g4
    go_wp2_with fail
    go_ret2
    exact ⟨none, 0, 0, [], rfl, rfl, OwnP.none13 _ _ _, hb4⟩
  · have HSZ : Hid (Sz11 (ps.set (atP ps s) (enP p y))) := Lib.hid (by have h3 := enZ_sz (ps := ps) (s := s) (y := y) HZ.out; rw [enZ_ok h2, h0] at h3; exact h3)
    rw [enZ_ok h2, h2, h0]
    rw [h1] at CF
    have CF2 := Lib.hid (CFD.out hr)
    rw [hfn] at CF2
    obtain ⟨hy1, hy2⟩ := yr_of hy
    have hn10 : n ≤ 10 := by have := (reg_of hr).1; have := HN.out; omega
    obtain ⟨a, ha⟩ : ∃ a, a = atP ps s := ⟨_, rfl⟩
    rw [← ha] at CF2 hp HSZ ⊢
    have HEX := Lib.hid (fun A1 d1 W => cL11Ex p A1 d1 (y - 1) W)
    rw [hex] at HEX
    have hal : a < n := by have := (List.getElem?_eq_some_iff.1 hp).1; have := HN.out; omega
    have u1 : (0 : Int) ≤ (a : Int) := Int.natCast_nonneg _
    have u2 : (a : Int) < (n : Int) := by omega
    have HP := Lib.hid hp
    have HPN : Hid (p.ns.length ≤ 1048576) := Lib.hid (HZ.out p (List.mem_of_getElem? hp)).2.1
    clear h1 h2 ha hex hpb hr CFD hp hfn h0
    go_enter Tryd.func31, Tryd.ntmps31
    go_wp2_with fail
    refine CF.out.mono ?_
    rintro e w1 ⟨rfl, g1⟩
    have CF3 := Lib.hid (CF2.out w1 g1)
    have HB1 := Lib.hid g1
    clear g1 CF2
    go_wp2_with fail
    refine CF3.out.mono ?_
    rintro e w2 ⟨rfl, g2⟩
    have hb2 := bstep9 HB1.out HB1.out.size g2
    have HPL2 := Lib.hid (H.out.grow hb2)
    obtain ⟨b, o, rfl, hbl, A1, d1, c0, c1, c2, c3, c4, hnm, hd1⟩ := (H.out.below hb2 (Nat.le_refl _)).row HP.out
    have HB2 := Lib.hid hb2
    have HNM2 := Lib.hid (hnm.more hb2.size)
    have CX := Lib.hid (HEX.out A1 d1 w2)
    unfold plv11 at CX
    clear hnm g2 hb2 CF3
    go_wp2_with fail
    refine CX.out.mono ?_
    rintro e w4 ⟨rfl, g4⟩
    have HB4 := Lib.hid (bstep9 HB2.out HB2.out.size g4)
    obtain ⟨es, hes, hps⟩ := ps_of_pl (HPL2.out.grow g4)
    have HES := Lib.hid hes
    have HL : Hid ((plV es).length = n * 5) := Lib.hid (by rw [plV_len, ← hps.len])
    have HLE := Lib.hid hps.len
    have HNS := Lib.hid hps.names
    have hbl4 : b < w4.heap.size := Nat.lt_of_lt_of_le hbl HB4.out.size
    have hb5 : Below w4.heap.size w4 (w4.alloc (.cells #[] 32)) := below_alloc11 _ _
    have HC : Hid (∀ ad, some (⟨b, o, none⟩ : Addr) = some ad → ∀ j u, (plV es)[j]? = some u → (w4.alloc (.cells #[] 32)).cell? (ad.add j) = some u) := Lib.hid (fun ad e j u hu => by
      obtain rfl := Option.some.inj e
      have h1 := hps.cells _ rfl j u hu
      rw [add_plain'] at h1 ⊢
      exact (hb5.cell (p := ⟨b, o + j, none⟩) hbl4).trans h1)
    have HOW : Hid ((w4.alloc (.cells #[] 32)).ownsRow w4.heap.size 32 5 (.slice (some ⟨w4.heap.size, 0, none⟩) 0 0) 0 (#[] : Array Value).toList) := Lib.hid (World.ownsRow_lit (e := 32) (base := w4.heap.size) (size := 5) w4 #[] 0 (Nat.le_refl _) (by decide) rfl)
    have HNM4 := Lib.hid (HNM2.out.grow g4)
    have HB5 := Lib.hid hb5
    have k0 := (g4.cell (p := ⟨b, o + a * 5, none⟩) (Nat.lt_of_lt_of_le hbl HB2.out.size)).trans c0
    have k1 := (g4.cell (p := ⟨b, o + a * 5 + 1, none⟩) (Nat.lt_of_lt_of_le hbl HB2.out.size)).trans c1
    have k2 := (g4.cell (p := ⟨b, o + a * 5 + 2, none⟩) (Nat.lt_of_lt_of_le hbl HB2.out.size)).trans c2
    have k3 := (g4.cell (p := ⟨b, o + a * 5 + 3, none⟩) (Nat.lt_of_lt_of_le hbl HB2.out.size)).trans c3
    have k4 := (g4.cell (p := ⟨b, o + a * 5 + 4, none⟩) (Nat.lt_of_lt_of_le hbl HB2.out.size)).trans c4
    have z1 : 0 + n ≤ maxLen := by unfold maxLen; omega
    have z2 : (0 + n) * 64 ≤ 140737488355328 := by omega
    clear g4 hes hps hb5 c0 c1 c2 c3 c4 CX
    go_wp2_with (at_builtin; (refine wpList_append_x rfl _ _ 39 rfl w4.heap.size 32 i0 _ 5 64 Tryd.underlying39 hi0 hz0 hz1 hz2 rfl (by decide) _ 0 _ rfl HOW.out (some ⟨b, o, none⟩) n c (plV es) rfl (fun e => by cases e) HL.out HC.out (pl_one11 _) z1 z2 HB5.out.size ?_))
    intro v' w5 hown5 hgrow5 _
    have hown5 : w5.ownsRow w4.heap.size 32 5 v' n (plV es) := by simpa using hown5
    obtain ⟨g, cc, rfl, hg0, hgl⟩ := World.ownsRow.form hown5 (by omega)
    have hb6 : Below w4.heap.size w4 w5 := HB5.out.grown hgrow5 HB5.out.size (fun j hj => (HOW.out.lt j hj).1)
    have m0 := (hb6.cell (p := ⟨b, o + a * 5, none⟩) hbl4).trans k0
    have m1 := (hb6.cell (p := ⟨b, o + a * 5 + 1, none⟩) hbl4).trans k1
    have m2 := (hb6.cell (p := ⟨b, o + a * 5 + 2, none⟩) hbl4).trans k2
    have m3 := (hb6.cell (p := ⟨b, o + a * 5 + 3, none⟩) hbl4).trans k3
    have m4 := (hb6.cell (p := ⟨b, o + a * 5 + 4, none⟩) hbl4).trans k4
    have CEN := Lib.hid (cL11End p A1 d1 y w5 HPN.out hy1 hy2 (HNM4.out.grow hb6))
    unfold plv11 at CEN
    have HO5 := Lib.hid hown5
    have HB6 := Lib.hid hb6
    have ccn : (n : Int) ≤ (n : Int) := Int.le_refl _
    clear hown5 hgrow5 hb6 k0 k1 k2 k3 k4 HOW HC
    go_wp2_with fail
    refine CEN.out.mono ?_
    rintro e w6 ⟨A2, d2, rfl, hd2, hin, g6⟩
    have hr6 := keptR HO5.out g6
    have hl6 := hr6.1
    have hle := HLE.out
    obtain ⟨v0, q0⟩ : ∃ v, w6.cell? ⟨g, a * 5, none⟩ = some v := ⟨_, (hr6.cellAt (a * 5) (by omega)).trans (List.getElem?_eq_getElem (by omega))⟩
    obtain ⟨v1, q1⟩ : ∃ v, w6.cell? ⟨g, a * 5 + 1, none⟩ = some v := ⟨_, (hr6.cellAt (a * 5 + 1) (by omega)).trans (List.getElem?_eq_getElem (by omega))⟩
    obtain ⟨v2, q2⟩ : ∃ v, w6.cell? ⟨g, a * 5 + 2, none⟩ = some v := ⟨_, (hr6.cellAt (a * 5 + 2) (by omega)).trans (List.getElem?_eq_getElem (by omega))⟩
    obtain ⟨v3, q3⟩ : ∃ v, w6.cell? ⟨g, a * 5 + 3, none⟩ = some v := ⟨_, (hr6.cellAt (a * 5 + 3) (by omega)).trans (List.getElem?_eq_getElem (by omega))⟩
    obtain ⟨v4, q4⟩ : ∃ v, w6.cell? ⟨g, a * 5 + 4, none⟩ = some v := ⟨_, (hr6.cellAt (a * 5 + 4) (by omega)).trans (List.getElem?_eq_getElem (by omega))⟩
    have f0 := hr6.frozenAt (a * 5)
    have f1 := hr6.frozenAt (a * 5 + 1)
    have f2 := hr6.frozenAt (a * 5 + 2)
    have f3 := hr6.frozenAt (a * 5 + 3)
    have f4 := hr6.frozenAt (a * 5 + 4)
    have s1 := hr6.stored (a * 5) (.string p.c)
    have s2 := s1.1.stored (a * 5 + 1) (.int .i64 p.k)
    have s3 := s2.1.stored (a * 5 + 2) (.int .i64 p.f)
    have s4 := s3.1.stored (a * 5 + 3) (.int .i64 (min p.u (y - 1)))
    have s5 := s4.1.stored (a * 5 + 4) (.slice A2 (cutL (y - 1) p.ns).length d2)
    have hcs := plV_set5 es a ⟨enP p y, A2, d2⟩ (by omega)
    have hst := s5.1
    have hcs2 : (((((plV es).set (a * 5) (.string p.c)).set (a * 5 + 1) (.int .i64 p.k)).set (a * 5 + 2) (.int .i64 p.f)).set (a * 5 + 3) (.int .i64 (min p.u (y - 1)))).set (a * 5 + 4) (.slice A2 (cutL (y - 1) p.ns).length d2) = plV (es.set a ⟨enP p y, A2, d2⟩) := hcs
    rw [hcs2] at hst
    have hbS := below_set5 (bstep9 HB6.out HB6.out.size g6) hg0 (a * 5) (a * 5 + 1) (a * 5 + 2) (a * 5 + 3) (a * 5 + 4) (.string p.c) (.int .i64 p.k) (.int .i64 p.f) (.int .i64 (min p.u (y - 1))) (.slice A2 (cutL (y - 1) p.ns).length d2)
    obtain ⟨V7, hV7⟩ : ∃ V7 : World, V7 = ((((w6.setCell ⟨g, a * 5, none⟩ (.string p.c)).setCell ⟨g, a * 5 + 1, none⟩ (.int .i64 p.k)).setCell ⟨g, a * 5 + 2, none⟩ (.int .i64 p.f)).setCell ⟨g, a * 5 + 3, none⟩ (.int .i64 (min p.u (y - 1)))).setCell ⟨g, a * 5 + 4, none⟩ (.slice A2 (cutL (y - 1) p.ns).length d2) := ⟨_, rfl⟩
    rw [← hV7] at hst hbS
    have hin7 : V7.ownsRow w5.heap.size 65 5 (.slice A2 (cutL (y - 1) p.ns).length d2) (cutL (y - 1) p.ns).length (nmV (cutL (y - 1) p.ns)) := by
      rw [hV7]
      refine own_block11 hin (fun j hj => ?_)
      have hlj := (hin.lt j hj).1
      have key : ∀ (W : World) (i : Nat) (v : Value), (W.setCell ⟨g, i, none⟩ v).heap[j]? = W.heap[j]? := fun W i v => Below.heap_setCell _ _ _ _ (by show j ≠ g; omega)
      simp only [key]
    have hpl : PlAt V7 V7.heap.size (some ⟨g, 0, none⟩) n (ps.set a (enP p y)) := by
      have h1 : plsOf (es.set a ⟨enP p y, A2, d2⟩) = ps.set a (enP p y) := by rw [plsOf_set, HES.out]
      rw [← h1]
      exact pl_of_row hst (fun e he => by
        rcases List.mem_or_eq_of_mem_set he with he | rfl
        · exact ⟨((HNS.out e he).1).grow hbS, (HNS.out e he).2⟩
        · exact ⟨own_nm hin7, hd2⟩)
    have COW := Lib.hid (cOwnPl (some ⟨g, 0, none⟩) n cc (ps.set a (enP p y)) V7 hb HSZ.out hpl)
    have HB7 := Lib.hid (bstep9 HB4.out HB4.out.size hbS)
    have HV7 := Lib.hid hV7
    unfold enP
    clear hle s1 s2 s3 s4 s5 hcs hcs2 hst hbS hin7 hpl hr6 hl6 hin g6 hV7 m0 m1 m2 m3 m4 CEN
    go_wp2_with fail
    rw [← HV7.out]
    refine COW.out.mono ?_
    rintro e w8 ⟨C, c8, es8, rfl, hes8, how, g8⟩
    have HOW8 := Lib.hid (how.down HB7.out.size)
    have HB8 := Lib.hid (bstep9 HB7.out HB7.out.size g8)
    clear how g8
    go_wp2_with fail
    go_ret2
    exact ⟨C, n, c8, es8, rfl, hes8, HOW8.out, HB8.out⟩
end Go.Proofs.YtkbkgbhnfopgnaaDoor
