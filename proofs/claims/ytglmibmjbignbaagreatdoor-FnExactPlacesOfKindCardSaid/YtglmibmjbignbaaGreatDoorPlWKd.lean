/-
  The contract of codesWhere at the closure of PlacesOfKind.
-/
import Derived.Test.YtglmibmjbignbaaGreatDoorPlFS
import Derived.Test.YtglmibmjbignbaaGreatDoorMz23
namespace Go.Proofs.YtglmibmjbignbaaGreatDoor
set_option linter.unusedVariables false
open Go.RowKit

set_option maxHeartbeats 2000000 in
set_option maxRecDepth 100000 in
theorem cWhereKd (A : Option Addr) (n c : Nat) (ps : List Pl) (ga gb : Nat) (P : Pl → Bool) (w : World) (hb : n ≤ 1048576) (h : PlAt w w.heap.size A n ps)
    (hcl : ∀ p ∈ ps, ∀ A d W, Below w.heap.size w W → NmAt W W.heap.size A p.ns.length p.ns → p.ns.length ≤ d → Calls Tryz.prog 97 #[enA p A d, .pointer (some ⟨ga, 0, none⟩), .pointer (some ⟨gb, 0, none⟩)] W fun e w' => e = .returned (.bool (P p)) ∧ Below W.heap.size W w') :
    Calls Tryz.prog 72 #[.slice A n c, .func (.func 97) #[] #[.pointer (some ⟨ga, 0, none⟩), .pointer (some ⟨gb, 0, none⟩)]] w (RowT11 (cdZ P ps) w) := by
  obtain ⟨i0, hi0, hz0, hz1, hz2⟩ := info_parts info_strW
  have H := Lib.hid h
  have HN := Lib.hid h.1
  have HC := Lib.hid hcl
  have CE := Lib.hid (fun p A d W => cEntry p A d W)
  clear h hcl
  go_enter Tryz.func72, Tryz.ntmps72
  go_wp2_with fail
  go_loopw [5, 10] (fun o i wr => ∃ (k m d : Nat) (B : Option Addr), k ≤ n ∧ i = .int .i64 k ∧ o = .slice B m d ∧ Hid (m ≤ k) ∧ Hid (wr.ownsRow w.heap.size 9 1 (.slice B m d) m (strV (cdZ P (ps.take k)))) ∧ Below w.heap.size w wr) (fun _ i _ => n - (intOf i).toNat)
  case atStart => exact ⟨0, 0, 0, none, Nat.zero_le _, rfl, rfl, Lib.hid (Nat.le_refl _), Lib.hid (World.ownsRow_nil _ _ _ _), Below.refl _ _⟩
  case round =>
    obtain ⟨k, m, d, B, hk, rfl, rfl, HM, HO, hbw⟩ := hrel
    by_cases hlt : k < n
    · obtain ⟨p, hp⟩ : ∃ p, ps[k]? = some p := ⟨ps[k]'(by have := HN.out; omega), List.getElem?_eq_getElem _⟩
      obtain ⟨b, o, rfl, hbl, A1, d1, c0, c1, c2, c3, c4, hnm, hd⟩ := (H.out.below hbw (Nat.le_refl _)).row hp
      obtain ⟨W0, hW0⟩ : ∃ W0 : World, W0 = wr.alloc (.cells #[.string p.c, .int .i64 p.k, .int .i64 p.f, .int .i64 p.u, .slice A1 p.ns.length d1] 29) := ⟨_, rfl⟩
      have HB0 : Hid (Below wr.heap.size wr W0) := Lib.hid (by rw [hW0]; exact below_alloc11 _ _)
      have HX : Hid (Bx W0 wr.heap.size [.string p.c, .int .i64 p.k, .int .i64 p.f, .int .i64 p.u, .slice A1 p.ns.length d1]) := Lib.hid (by rw [hW0]; exact Bx.new wr _ _)
      have HW0 := Lib.hid hW0
      have CC := Lib.hid (fun W (hW : Below wr.heap.size wr W) => HC.out p (List.mem_of_getElem? hp) A1 d1 W (bstep9 hbw hbw.size hW) ((hnm.more hbw.size).grow hW) hd)
      have CX := Lib.hid (CE.out p A1 d1 W0)
      have HP := Lib.hid hp
      have HB := Lib.hid hbw
      have u1 : (0 : Int) ≤ (k : Int) := Int.natCast_nonneg _
      have u2 : (k : Int) < (n : Int) := by omega
      clear hp hnm hd hbw hW0
      go_wp2_with fail
      rw [← HW0.out]
      refine CX.out.mono ?_
      rintro e w1 ⟨rfl, g1⟩
      have hb1 := bstep9 HB0.out HB0.out.size g1
      have CC1 := Lib.hid (CC.out w1 hb1)
      cases hf : P p
      · rw [hf] at CC1
        have HST := Lib.hid (cdZ_no HP.out hf)
        clear hf
        go_wp2_with fail
        refine CC1.out.mono ?_
        rintro e w2 ⟨rfl, g2⟩
        have hb2 := bstep9 hb1 hb1.size g2
        have hbt := bstep9 HB.out HB.out.size hb2
        have HO2 : Hid (w2.ownsRow w.heap.size 9 1 (.slice B m d) m (strV (cdZ P (ps.take (k + 1))))) := Lib.hid (by rw [HST.out]; exact keptW HO.out hb2)
        clear g1 g2 hb1 hb2 c0 c1 c2 c3 c4
        go_wp2_with fail
        go_roundw
        case rel => exact ⟨k + 1, m, d, B, by omega, by go_num, rfl, Lib.hid (by have := HM.out; omega), HO2, hbt⟩
        case measure => simp [intOf]; omega
      · rw [hf] at CC1
        have HST := Lib.hid (cdZ_yes HP.out hf)
        clear hf
        go_wp2_with fail
        refine CC1.out.mono ?_
        rintro e w2 ⟨rfl, g2⟩
        have hb2 := bstep9 hb1 hb1.size g2
        have hbt := bstep9 HB.out HB.out.size hb2
        have hown := keptW HO.out hb2
        have hmk := HM.out
        have q0 := ((HX.out.next g1).next g2).five.1
        clear g1 g2 hb1 hb2 c0 c1 c2 c3 c4
        go_wp2_with (at_builtin; refine wpList_append_own _ rfl _ _ 38 rfl w.heap.size 9 i0 _ 1 16 Tryz.underlying38 hi0 hz0 hz1 hz2 rfl (by decide) _ _ _ rfl (hown.alloc _) ⟨w2.heap.size, 0, none⟩ 1 1 [.string p.c] rfl rfl ?d1 ?d2 ?d3 ?d4 ?d5 ?_)
        case d1 => exact one_cell' _ _ _ (new_one _ _ _)
        case d2 => intro u hu; simp at hu; subst hu; rfl
        case d3 => unfold maxLen; omega
        case d4 => omega
        case d5 => have := hbt.size; simp; omega
        intro v' w3 hown3 hgrow3 _
        rw [strV_snocW] at hown3
        have hb3 : Below w.heap.size w w3 := (hbt.alloc hbt.size _).grown hgrow3 (by have := hbt.size; simp; omega) (fun x hx => (hown.lt x hx).1)
        have HO3 : Hid (w3.ownsRow w.heap.size 9 1 v' (m + 1) (strV (cdZ P (ps.take (k + 1))))) := Lib.hid (by rw [HST.out]; exact hown3)
        obtain ⟨g', c', rfl, _, _⟩ := World.ownsRow.form HO3.out (by omega)
        clear hown3 hown hgrow3 q0
        go_wp2_with fail
        go_roundw
        case rel => exact ⟨k + 1, m + 1, c', some ⟨g', 0, none⟩, by omega, by go_num, rfl, Lib.hid (by omega), HO3, hb3⟩
        case measure => simp [intOf]; omega
    · have HF : Hid (wr.ownsRow w.heap.size 9 1 (.slice B m d) m (strV (cdZ P ps))) := Lib.hid (by have := HO.out; rwa [List.take_of_length_le (by have := HN.out; omega)] at this)
      go_wp2_with fail
      go_ret
      exact ⟨B, m, d, rfl, HF.out, hbw⟩
end Go.Proofs.YtglmibmjbignbaaGreatDoor
