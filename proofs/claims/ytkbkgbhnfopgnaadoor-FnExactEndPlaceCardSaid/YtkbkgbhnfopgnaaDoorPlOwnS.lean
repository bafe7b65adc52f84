/-
  The contract of l11Own: every row of its own.
-/
import Derived.Test.YtkbkgbhnfopgnaaDoorPlCl
import Derived.Test.YtkbkgbhnfopgnaaDoorPlApp
import Derived.Test.YtkbkgbhnfopgnaaDoorBx
namespace Go.Proofs.YtkbkgbhnfopgnaaDoor
set_option linter.unusedVariables false
open Go.RowKit Go.Lib

set_option maxHeartbeats 2000000 in
set_option maxRecDepth 100000 in
theorem cOwnPl (A : Option Addr) (n cap : Nat) (ps : List Pl) (w : World) (hbig : n ≤ 1048576) (hz : Sz11 ps) (h : PlAt w w.heap.size A n ps) :
    Calls Tryd.prog 56 #[.slice A n cap] w (CopyOut ps n w) := by
  obtain ⟨i0, hi0, hz0, hz1, hz2⟩ := info_parts info_pl
  obtain ⟨j0, hj0, hy0, hy1, hy2⟩ := info_parts info_nm
  have H := Lib.hid h
  have HN := Lib.hid h.1
  have HS := Lib.hid hz
  have HO : Hid (OwnP (w.alloc (.cells #[] 32)) w.heap.size (w.alloc (.cells #[] 32)).heap.size (some ⟨w.heap.size, 0, none⟩) 0 0 []) := Lib.hid ⟨World.ownsRow_lit (e := 32) (base := w.heap.size) (size := 5) w #[] 0 (Nat.le_refl _) (by decide) rfl, fun k hk => by (obtain rfl : w.heap.size = k := by simpa [Value.ownBlock] using hk); simp, fun e he => (by cases he), fun i j x y _ hi => (by simp at hi)⟩
  have hb0 : Below w.heap.size w (w.alloc (.cells #[] 32)) := below_alloc11 _ _
  clear h hz
  go_enter Tryd.func56, Tryd.ntmps56
  go_wp2_with fail
  go_loopw [3, 4] (fun v i wr => ∃ (k : Nat) (g c : Nat) (es : List PE), k ≤ n ∧ v = .slice (some ⟨g, 0, none⟩) k c ∧ i = .int .i64 k ∧ Hid (es.length = k ∧ plsOf es = ps.take k) ∧ Hid (OwnP wr w.heap.size wr.heap.size (some ⟨g, 0, none⟩) k c es) ∧ Below w.heap.size w wr) (fun v i _ => n - (RowKit.intOf i).toNat)
  case atStart => exact ⟨0, _, 0, [], Nat.zero_le _, rfl, rfl, Lib.hid ⟨rfl, by simp [plsOf]⟩, HO, hb0⟩
  case round =>
    clear HO hb0
    obtain ⟨k, g, c, es, hk, rfl, rfl, HE, HO, hbw⟩ := hrel
    by_cases hlt : k < n
    · obtain ⟨p, hp⟩ : ∃ p, ps[k]? = some p := ⟨ps[k]'(by have := HN.out; omega), List.getElem?_eq_getElem _⟩
      obtain ⟨b, o, rfl, hbl, A1, d1, c0, c1, c2, c3, c4, hnm, hd1⟩ := (H.out.below hbw (Nat.le_refl _)).row hp
      have hsz := HS.out p (List.mem_of_getElem? hp)
      have HP := Lib.hid hp
      have HNM := Lib.hid (hnm.more hbw.size)
      have u1 : (0 : Int) ≤ (k : Int) := Int.natCast_nonneg _
      have u2 : (k : Int) < (n : Int) := by omega
      clear hp hnm
      have hA1 : A1 = none → p.ns.length = 0 := fun e => by
        rcases Nat.eq_zero_or_pos p.ns.length with h0 | hp
        · exact h0
        · obtain ⟨b1, o1, e1, _⟩ := HNM.out.2 hp; rw [e] at e1; cases e1
      obtain ⟨V0, hV0⟩ : ∃ V0 : World, V0 = wr.alloc (.cells #[.string p.c, .int .i64 p.k, .int .i64 p.f, .int .i64 p.u, .slice A1 p.ns.length d1] 32) := ⟨_, rfl⟩
      have hs0 : V0.heap.size = wr.heap.size + 1 := by rw [hV0]; simp
      have hbV : Below wr.heap.size wr V0 := by rw [hV0]; exact below_alloc11 _ _
      have HX0 : Hid (Bx V0 wr.heap.size [.string p.c, .int .i64 p.k, .int .i64 p.f, .int .i64 p.u, .slice A1 p.ns.length d1]) := Lib.hid (by rw [hV0]; exact Bx.new wr _ _)
      have hbV1 := hbV.alloc (by omega) (.cells #[] 65)
      have HC : Hid (∀ ad, A1 = some ad → ∀ j u, (nmV p.ns)[j]? = some u → (V0.alloc (.cells #[] 65)).cell? (ad.add j) = some u) := Lib.hid (fun ad e j u hu => by
        have h1 := HNM.out.grow hbV1
        rw [e] at h1
        exact nm_cellsA h1 j u hu)
      have HL : Hid ((nmV p.ns).length = p.ns.length * 5) := Lib.hid (by rw [nmV_len])
      have HOW : Hid ((V0.alloc (.cells #[] 65)).ownsRow V0.heap.size 65 5 (.slice (some ⟨V0.heap.size, 0, none⟩) 0 0) 0 (#[] : Array Value).toList) := Lib.hid (World.ownsRow_lit (e := 65) (base := V0.heap.size) (size := 5) V0 #[] 0 (Nat.le_refl _) (by decide) rfl)
      have HVE := Lib.hid hV0
      have HS0 := Lib.hid hs0
      have HBV := Lib.hid hbV
      have HBV1 := Lib.hid hbV1
      have z1 : 0 + p.ns.length ≤ maxLen := by unfold maxLen; omega
      have z2 : (0 + p.ns.length) * 56 ≤ 140737488355328 := by omega
      have HHD := Lib.hid hd1
      clear hV0 hbV hbV1 hs0
      go_wp2_with (at_builtin; rw [← HVE.out, ← HS0.out]; (refine wpList_append_x rfl _ _ 30 rfl V0.heap.size 65 j0 _ 5 56 Tryd.underlying30 hj0 hy0 hy1 hy2 rfl (by decide) _ 0 _ rfl HOW.out A1 p.ns.length d1 (nmV p.ns) rfl hA1 HL.out HC.out (nm_one11 _) z1 z2 (by simp) ?_))
      intro v' w2 hown2 hgrow2 _
      have hown2 : w2.ownsRow V0.heap.size 65 5 v' p.ns.length (nmV p.ns) := by simpa using hown2
      obtain ⟨A2, d2, rfl, hd2⟩ := row_form5 hown2
      have hX2 := (HX0.out.alloc (.cells #[] 65)).grown hgrow2 (show wr.heap.size ≠ V0.heap.size by have := HS0.out; omega)
      have hb2 : Below wr.heap.size wr w2 := HBV1.out.grown hgrow2 HBV1.out.size (fun j hj => by (obtain rfl : V0.heap.size = j := by simpa [Value.ownBlock] using hj); rw [HS0.out]; omega)
      have hX3 := hX2.set 4 (.slice A2 p.ns.length d2) (by simp)
      have hb3 := hb2.setCell (p := ⟨wr.heap.size, 4, none⟩) (Nat.le_refl _) (.slice A2 p.ns.length d2)
      obtain ⟨V3, hV3⟩ : ∃ V3 : World, V3 = w2.setCell ⟨wr.heap.size, 4, none⟩ (.slice A2 p.ns.length d2) := ⟨_, rfl⟩
      have hs3 : V3.heap.size = w2.heap.size := by rw [hV3]; simp
      have hnm3 : V3.ownsRow V0.heap.size 65 5 (.slice A2 p.ns.length d2) p.ns.length (nmV p.ns) := by
        rw [hV3]
        exact own_block11 hown2 (fun j hj => Below.heap_setCell _ _ _ _ (by have := (hown2.lt j hj).1; rw [HS0.out] at this; show j ≠ wr.heap.size; omega))
      obtain ⟨_, _, _, _, x4, _, _, _, _, f4⟩ := hX2.five
      rw [← hV3] at hX3 hb3
      obtain ⟨y0, y1, y2, y3, y4, _⟩ := hX3.five
      have hb4 := hb3.alloc hb3.size (.cells #[.string p.c, .int .i64 p.k, .int .i64 p.f, .int .i64 p.u, .slice A2 p.ns.length d2] 32)
      have ho4 := HO.out.below hb4
      have hnm4 := (World.ownsRow.alloc hnm3 (.cells #[.string p.c, .int .i64 p.k, .int .i64 p.f, .int .i64 p.u, .slice A2 p.ns.length d2] 32)).mono (base' := w.heap.size) (by rw [HS0.out]; have := hbw.size; omega)
      have HNEW : Hid (∀ ad, some (⟨V3.heap.size, 0, none⟩ : Addr) = some ad → ∀ j u, (encE11 ⟨p, A2, d2⟩)[j]? = some u → (V3.alloc (.cells #[.string p.c, .int .i64 p.k, .int .i64 p.f, .int .i64 p.u, .slice A2 p.ns.length d2] 32)).cell? (ad.add j) = some u) := Lib.hid (fun ad e j u hu => by
        obtain rfl := Option.some.inj e
        rw [add_plain', Nat.zero_add]
        exact ((Bx.new V3 #[.string p.c, .int .i64 p.k, .int .i64 p.f, .int .i64 p.u, .slice A2 p.ns.length d2] 32).2 j u hu).1)
      have HO4 := Lib.hid ho4
      have HNM4 := Lib.hid hnm4
      have HB4 := Lib.hid hb4
      have HV3 := Lib.hid hV3
      have HS3 := Lib.hid hs3
      have HNW : Hid (∀ x ∈ es, 0 < x.p.ns.length → 0 < p.ns.length → x.a ≠ A2) := Lib.hid (fun x hx hp hq => HO.out.newer (hown2.mono (by have := HS0.out; omega)) hq x hx hp)
      have HON : Hid (∀ u ∈ encE11 ⟨p, A2, d2⟩, u.oneCell' = true) := Lib.hid (fun u hu => pl_one11 [⟨p, A2, d2⟩] u (by rw [plV_one]; exact hu))
      have z3 : k + 1 ≤ maxLen := by unfold maxLen; omega
      have z4 : (k + 1) * 64 ≤ 140737488355328 := by omega
      have hba : w.heap.size ≤ (V3.alloc (.cells #[.string p.c, .int .i64 p.k, .int .i64 p.f, .int .i64 p.u, .slice A2 p.ns.length d2] 32)).heap.size := Nat.le_trans hbw.size hb4.size
      clear hown2 hgrow2 hX2 hb2 hX3 hb3 hV3 hs3 hnm3 hb4 ho4 hnm4 HC HOW
      go_wp2_with (at_builtin; rw [← HV3.out, ← HS3.out]; (refine wpList_append_x rfl _ _ 39 rfl w.heap.size 32 i0 _ 5 64 Tryd.underlying39 hi0 hz0 hz1 hz2 rfl (by decide) _ k (plV es) rfl HO4.out.row (some ⟨V3.heap.size, 0, none⟩) 1 1 (encE11 ⟨p, A2, d2⟩) rfl (fun e => by cases e) rfl HNEW.out HON.out z3 z4 hba ?_))
      intro v5 w5 hown5 hgrow5 _
      obtain ⟨g5, c5, rfl, hg5, hl5⟩ := World.ownsRow.form hown5 (by omega)
      have hrow5 : w5.ownsRow w.heap.size 32 5 (.slice (some ⟨g5, 0, none⟩) (k + 1) c5) (k + 1) (plV (es ++ [⟨p, A2, d2⟩])) := by rw [plV_app, plV_one]; exact hown5
      have hfin := HO4.out.snoc (e := ⟨p, A2, d2⟩) (hi' := w5.heap.size) (fun _ => ⟨HNM4.out, fun b hb => Nat.lt_of_lt_of_le (HNM4.out.lt b hb).2 hgrow5.size⟩) HNW.out hrow5 (fun j hj => (hrow5.lt j hj).2) (Nat.le_trans HB4.out.size hgrow5.size) hgrow5
      have HF := Lib.hid hfin
      have HE5 : Hid ((es ++ [(⟨p, A2, d2⟩ : PE)]).length = k + 1 ∧ plsOf (es ++ [(⟨p, A2, d2⟩ : PE)]) = ps.take (k + 1)) := Lib.hid ⟨by simp [HE.out.1], by rw [plsOf_app, HE.out.2, take_snocP HP.out]; rfl⟩
      have hbw5 : Below w.heap.size w w5 := (bstep9 hbw hbw.size HB4.out).grown hgrow5 hba (fun j hj => (HO4.out.row.lt j hj).1)
      clear hown5 hgrow5 hrow5 hfin
      go_wp2_with fail
      go_roundw
      case rel => exact ⟨k + 1, g5, c5, _, by omega, rfl, by go_num, HE5, HF, hbw5⟩
      case measure => simp [RowKit.intOf]; omega
    · obtain rfl : k = n := by omega
      have HF : Hid (plsOf es = ps ∧ OwnP wr w.heap.size wr.heap.size (some ⟨g, 0, none⟩) k c es) := Lib.hid (by
        have h2 := HE.out.2
        rw [List.take_of_length_le (by have := HN.out; omega)] at h2
        exact ⟨h2, HO.out⟩)
      go_wp2_with fail
      go_ret
      exact ⟨_, c, es, rfl, HF.out.1, HF.out.2, hbw⟩
end Go.Proofs.YtkbkgbhnfopgnaaDoor
