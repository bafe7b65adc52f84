/-
  The contracts of spec.l09Rename and spec.RenameIn.
-/
import Derived.Test.YthlilfdndpnbkaaGreatDoorRn9
namespace Go.Proofs.YthlilfdndpnbkaaGreatDoor
set_option linter.unusedVariables false
open Go.RowKit

def RowOut (zs : List Nm) (w : World) (e : Ending) (w' : World) : Prop :=
  ∃ A n c, e = .returned (.slice A n c) ∧ w'.ownsRow w.heap.size 27 5 (.slice A n c) n (nmV zs) ∧ Below w.heap.size w w'

set_option maxHeartbeats 8000000 in
set_option maxRecDepth 100000 in
theorem cL09Rn (A : Option Addr) (n c k : Nat) (xs : List Nm) (x : Nm) (y : Int) (t : ByteArray) (w : World) (hb : n ≤ 1048576) (hy1 : -3000 ≤ y) (hy2 : y ≤ 3000) (hx : xs[k]? = some x) (h : NmAt w w.heap.size A n xs) :
    Calls Tryz.prog 61 #[.slice A n c, .int .i64 (k : Int), .int .i64 y, .string t] w (RowOut (rnL xs k x y t x.l) w) := by
  obtain ⟨i0, hi0, hz0, hz1, hz2⟩ := info_parts info_nm
  have HX := Lib.hid hx
  have H := Lib.hid h
  have HN := Lib.hid h.1
  have hkn : k < n := by have h1 := (List.getElem?_eq_some_iff.1 hx).1; have := h.1; omega
  obtain ⟨b, o, rfl, hbl, c0, c1, c2, c3, c4⟩ := h.row hx
  have HBL := Lib.hid hbl
  have KB := Lib.hid (fun W hW => nm_box (w := w) (W := W) (x := x) (t := 27) hW)
  have HB0 := Lib.hid ((Below.refl w.heap.size w).alloc (Nat.le_refl _) (.cells #[.string x.t, .string x.l, .int .i64 x.s, .int .i64 x.f, .int .i64 x.u] 27))
  obtain ⟨W0, hW0⟩ : ∃ W0, W0 = w.alloc (.cells #[.string x.t, .string x.l, .int .i64 x.s, .int .i64 x.f, .int .i64 x.u] 27) := ⟨_, rfl⟩
  rw [← hW0] at KB HB0
  have hs0 : W0.heap.size = w.heap.size + 1 := by rw [hW0]; simp
  have HS0 := Lib.hid hs0
  have HW0 := Lib.hid hW0
  have u1 : (0 : Int) ≤ (k : Int) := Int.natCast_nonneg _
  have u2 : (k : Int) < (n : Int) := by omega
  clear hx h hbl hW0 hs0
  go_enter Tryz.func61, Tryz.ntmps61
  go_wp2_with fail
  rw [← HW0.out]
  have hO := World.ownsRow_lit (e := 27) (base := W0.heap.size) (size := 5) W0 #[] 0 (Nat.le_refl _) (by decide) rfl
  have HO0 := Lib.hid hO
  have HB1 := Lib.hid ((Below.refl W0.heap.size W0).alloc (Nat.le_refl _) (.cells #[] 27))
  clear hO c0 c1 c2 c3 c4
  go_loopw [10, 11] (fun p q wr => ∃ (i m d : Nat) (B : Option Addr), i ≤ n ∧ q = .int .i64 i ∧ p = .slice B m d ∧ Hid (m ≤ i) ∧ Hid (wr.ownsRow W0.heap.size 27 5 (.slice B m d) m (nmV (rnP xs k y i))) ∧ Below W0.heap.size W0 wr) (fun _ q _ => n - (intOf q).toNat)
  case atStart => exact ⟨0, 0, 0, _, Nat.zero_le _, rfl, by rw [HS0.out], Lib.hid (Nat.le_refl _), HO0, HB1.out⟩
  case round =>
    clear HO0 HB1
    obtain ⟨i, m, d, B, hi, rfl, rfl, HM, HO, hbr⟩ := hrel
    by_cases hlt : i < n
    · obtain ⟨z, hzi⟩ : ∃ z, xs[i]? = some z := ⟨xs[i]'(by have := HN.out; omega), List.getElem?_eq_getElem _⟩
      have hbw := HB0.out.trans (hbr.mono (by have := HS0.out; omega))
      obtain ⟨b', o', hA, _, c0, c1, c2, c3, c4⟩ := (H.out.below hbw (Nat.le_refl _)).row hzi
      obtain ⟨rfl, rfl⟩ : b = b' ∧ o = o' := by injection hA with hA; injection hA with e1 e2; exact ⟨e1, e2⟩
      obtain ⟨k0, k1, k2, k3, k4⟩ := KB.out wr hbr
      have hlw : w.heap.size < wr.heap.size := by have h1 := hbr.size; have := HS0.out; omega
      have HZI := Lib.hid hzi
      have u3 : (0 : Int) ≤ (i : Int) := Int.natCast_nonneg _
      have u4 : (i : Int) < (n : Int) := by omega
      have hmk := HM.out
      clear hA hzi hbw
      by_cases hik : i = k
      · subst hik
        obtain rfl : z = x := by have h1 := HZI.out; rw [HX.out] at h1; exact (Option.some.inj h1).symm
        have zk : ((i : Int) == (i : Int)) = true := by simp
        have hb2 := hbr.alloc hbr.size (.cells #[.string z.t, .string z.l, .int .i64 z.s, .int .i64 z.f, .int .i64 z.u] 27)
        by_cases hf : z.f = y
        · have zf : (z.f == y) = true := by simp [hf]
          have HO2 : Hid ((wr.alloc (.cells #[.string z.t, .string z.l, .int .i64 z.s, .int .i64 z.f, .int .i64 z.u] 27)).ownsRow W0.heap.size 27 5 (.slice B m d) m (nmV (rnP xs i y (i + 1)))) := Lib.hid (by rw [rnP_drop HX.out hf]; exact HO.out.alloc _)
          have HB2 := Lib.hid hb2
          clear hf hb2
          go_wp2_with fail
          go_roundw
          case rel => exact ⟨i + 1, m, d, B, by omega, by go_num, rfl, Lib.hid (by omega), HO2, HB2.out⟩
          case measure => simp [intOf]; omega
        · have zf : (z.f == y) = false := by simp [hf]
          have HST := Lib.hid (rnP_end (y := y) HX.out hf)
          have hb3 := hbr.alloc hbr.size (.cells #[.string z.t, .string z.l, .int .i64 z.s, .int .i64 z.f, .int .i64 (y - 1)] 27)
          have hown := HO.out.alloc (.cells #[.string z.t, .string z.l, .int .i64 z.s, .int .i64 z.f, .int .i64 (y - 1)] 27)
          clear hf hb2
          go_wp2_with (at_builtin; refine wpList_append_own _ rfl _ _ 35 rfl W0.heap.size 27 i0 _ 5 56 Tryz.underlying35 hi0 hz0 hz1 hz2 rfl (by decide) _ _ _ rfl (hown.alloc _) ⟨wr.heap.size + 1, 0, none⟩ 1 1 (encN (oldN z y)) rfl rfl (five_cells _ (oldN z y) _ _ (by simp)) (five_one _) ?d3 ?d4 ?d5 ?_)
          case d3 => unfold maxLen; omega
          case d4 => omega
          case d5 => have := hbr.size; simp; omega
          intro v' w6 hown6 hgrow6 _
          rw [← nmV_one, ← nmV_app] at hown6
          have hb6 := (hb3.alloc hb3.size _).grown hgrow6 (by have := hbr.size; simp; omega) (fun x hx => (hown.lt x hx).1)
          obtain ⟨D, d6, rfl⟩ := nm_form hown6
          have HO6 : Hid (w6.ownsRow W0.heap.size 27 5 (.slice D (m + 1) d6) (m + 1) (nmV (rnP xs i y (i + 1)))) := Lib.hid (by rw [HST.out]; exact hown6)
          have HB6 := Lib.hid hb6
          clear hown6 hgrow6 hb6 hown hb3 k0 k1 k2 k3 k4 c0 c1 c2 c3 c4
          go_wp2_with fail
          go_roundw
          case rel => exact ⟨i + 1, m + 1, d6, D, by omega, by go_num, rfl, Lib.hid (by omega), HO6, HB6.out⟩
          case measure => simp [intOf]; omega
      · have zk : ((i : Int) == (k : Int)) = false := by simp; omega
        have HST := Lib.hid (rnP_other (y := y) HZI.out hik)
        have hb3 := hbr.alloc hbr.size (.cells #[.string z.t, .string z.l, .int .i64 z.s, .int .i64 z.f, .int .i64 z.u] 27)
        have hown := HO.out.alloc (.cells #[.string z.t, .string z.l, .int .i64 z.s, .int .i64 z.f, .int .i64 z.u] 27)
        clear hik
        go_wp2_with (at_builtin; refine wpList_append_own _ rfl _ _ 35 rfl W0.heap.size 27 i0 _ 5 56 Tryz.underlying35 hi0 hz0 hz1 hz2 rfl (by decide) _ _ _ rfl (hown.alloc _) ⟨wr.heap.size + 1, 0, none⟩ 1 1 (encN z) rfl rfl (five_cells _ z _ _ (by simp)) (five_one _) ?d3 ?d4 ?d5 ?_)
        case d3 => unfold maxLen; omega
        case d4 => omega
        case d5 => have := hbr.size; simp; omega
        intro v' w6 hown6 hgrow6 _
        rw [← nmV_one, ← nmV_app] at hown6
        have hb6 := (hb3.alloc hb3.size _).grown hgrow6 (by have := hbr.size; simp; omega) (fun x hx => (hown.lt x hx).1)
        obtain ⟨D, d6, rfl⟩ := nm_form hown6
        have HO6 : Hid (w6.ownsRow W0.heap.size 27 5 (.slice D (m + 1) d6) (m + 1) (nmV (rnP xs k y (i + 1)))) := Lib.hid (by rw [HST.out]; exact hown6)
        have HB6 := Lib.hid hb6
        clear hown6 hgrow6 hb6 hown hb3 k0 k1 k2 k3 k4 c0 c1 c2 c3 c4
        go_wp2_with fail
        go_roundw
        case rel => exact ⟨i + 1, m + 1, d6, D, by omega, by go_num, rfl, Lib.hid (by omega), HO6, HB6.out⟩
        case measure => simp [intOf]; omega
    · obtain rfl : i = n := by omega
      have HALL : Hid (rnP xs k y i = rnB xs k x y) := Lib.hid (by have h1 := rnP_all (y := y) HX.out; rw [← HN.out] at h1; exact h1)
      obtain ⟨k0, k1, k2, k3, k4⟩ := KB.out wr hbr
      have hown := HO.out
      rw [HALL.out] at hown
      have hmk := HM.out
      clear k0 k2 k3
      go_wp2_with (at_builtin; refine wpList_append_own _ rfl _ _ 35 rfl W0.heap.size 27 i0 _ 5 56 Tryz.underlying35 hi0 hz0 hz1 hz2 rfl (by decide) _ _ _ rfl (hown.alloc _) ⟨wr.heap.size, 0, none⟩ 1 1 (encN (newN t x.l y x.u)) rfl rfl (five_cells _ (newN t x.l y x.u) _ _ rfl) (five_one _) ?d3 ?d4 ?d5 ?_)
      case d3 => unfold maxLen; omega
      case d4 => omega
      case d5 => have := hbr.size; simp; omega
      intro v' w6 hown6 hgrow6 _
      rw [← nmV_one, ← nmV_app] at hown6
      have hb6 := (hbr.alloc hbr.size _).grown hgrow6 (by have := hbr.size; simp; omega) (fun x hx => (hown.lt x hx).1)
      obtain ⟨D, d6, rfl⟩ := nm_form hown6
      have HO6 := Lib.hid (World.ownsRow.mono hown6 (show w.heap.size ≤ W0.heap.size by have := HS0.out; omega))
      have HB6 := Lib.hid (HB0.out.trans (hb6.mono (by have := HS0.out; omega)))
      clear hown6 hgrow6 hb6 hown
      go_wp2_with fail
      go_ret
      exact ⟨D, m + 1, d6, rfl, HO6.out, HB6.out⟩

set_option maxHeartbeats 2000000 in
set_option maxRecDepth 100000 in
theorem cRn_spec (A : Option Addr) (n c : Nat) (xs : List Nm) (l : ByteArray) (y : Int) (t : ByteArray) (w : World) (hb : n ≤ 1048576) (hz : Sz9 xs) (hl : l.size ≤ 1048576) (ht : t.size ≤ 1048576) (h : NmAt w w.heap.size A n xs) :
    Calls Tryz.prog 16 #[.slice A n c, .string l, .int .i64 y, .string t] w (OutM9 (rnZ xs l y t) (rnC xs l y t) w) := by
  have CP := Lib.hid (cIsPhrase_spec t w (by omega))
  have CC := Lib.hid (fun W (hW : Below w.heap.size w W) => cL09Code A n c xs l y W hb hz (by unfold maxLen; omega) ((h.below hW (Nat.le_refl _)).more hW.size))
  have CO := Lib.hid (fun W (hW : Below w.heap.size w W) => cL09Off A n c xs l y W hb ((h.below hW (Nat.le_refl _)).more hW.size))
  have CR := Lib.hid (fun k x W (hW : Below w.heap.size w W) (hy : yrB y = true) (hx : xs[k]? = some x) => cL09Rn A n c k xs x y t W hb (by unfold yrB at hy; simp at hy; exact hy.1) (by unfold yrB at hy; simp at hy; exact hy.2) hx ((h.below hW (Nat.le_refl _)).more hW.size))
  have HN := Lib.hid h.1
  clear h hz
  cases hp : phraseB t
  · have HC := Lib.hid (rnC_text (xs := xs) (l := l) (y := y) hp)
    have HZ := Lib.hid (rnZ_no (xs := xs) (l := l) (y := y) (t := t) (by rw [HC.out]; decide))
    rw [hp] at CP
    clear hp
    go_enter Tryz.func16, Tryz.ntmps16
    go_wp2_with fail
    refine CP.out.mono ?_
    rintro e w1 ⟨rfl, hb1⟩
    go_wp2_with fail
    go_ret2
    exact ⟨none, 0, 0, by rw [HC.out]; rfl, by rw [HZ.out]; exact World.ownsRow_nil _ _ _ _, hb1⟩
  rw [hp] at CP
  have HP := Lib.hid hp
  clear hp
  obtain ⟨q, hq⟩ : ∃ q, q = qC xs [l] y := ⟨_, rfl⟩
  rw [← hq] at CC
  by_cases h0 : q = 0
  · subst h0
    have HQ := Lib.hid hq.symm
    clear hq
    cases ho : offF xs l y with
    | none =>
      have HO := Lib.hid (offC_miss HQ.out ho)
      have HC := Lib.hid ((rnC_off (xs := xs) (l := l) (y := y) HP.out (by rw [HO.out]; decide)).trans HO.out)
      have HZ := Lib.hid (rnZ_no (xs := xs) (l := l) (y := y) (t := t) (by rw [HC.out]; decide))
      rw [ho] at CO
      dsimp only [offN] at CO
      clear ho
      go_enter Tryz.func16, Tryz.ntmps16
      go_wp2_with fail
      refine CP.out.mono ?_
      rintro e w1 ⟨rfl, hb1⟩
      go_wp2_with fail
      refine (CC.out _ hb1).mono ?_
      rintro e w2 ⟨rfl, g2⟩
      have hb2 := bstep9 hb1 hb1.size g2
      go_wp2_with fail
      refine (CO.out _ hb2).mono ?_
      rintro e w3 ⟨rfl, g3⟩
      have hb3 := bstep9 hb2 hb2.size g3
      clear hb1 g2 hb2 g3
      go_wp2_with fail
      go_ret2
      exact ⟨none, 0, 0, by rw [HC.out]; rfl, by rw [HZ.out]; exact World.ownsRow_nil _ _ _ _, hb3⟩
    | some k =>
      obtain ⟨x, hx, hou, _⟩ := fst_some (p := ouB l y) ho
      have hxl : x.l = l := by unfold ouB ofB at hou; simp at hou; exact hou.1.2
      have HO := Lib.hid (offC_hit HQ.out ho)
      have HX := Lib.hid hx
      have HK := Lib.hid ho
      have hkn : k < n := by have h1 := (List.getElem?_eq_some_iff.1 hx).1; have := HN.out; omega
      have hn12 : n ≤ 12 := by have h1 := (names_of (qC_zero HQ.out).1).1; have := HN.out; omega
      have CX := Lib.hid (fun W hW => CR.out k x W hW (qC_zero HQ.out).2.2 hx)
      rw [hxl] at CX
      rw [ho] at CO
      dsimp only [offN] at CO
      have hbl := rnB_len (x := x) (y := y) (show k < xs.length by have := HN.out; omega)
      have HLR : Hid ((rnL xs k x y t l).length ≤ 13) := Lib.hid (by unfold rnL; rw [List.length_append]; simp; have := HN.out; omega)
      have u1 : (0 : Int) ≤ (k : Int) := Int.natCast_nonneg _
      clear ho hx hou hxl hbl
      go_enter Tryz.func16, Tryz.ntmps16
      go_wp2_with fail
      refine CP.out.mono ?_
      rintro e w1 ⟨rfl, hb1⟩
      go_wp2_with fail
      refine (CC.out _ hb1).mono ?_
      rintro e w2 ⟨rfl, g2⟩
      have hb2 := bstep9 hb1 hb1.size g2
      go_wp2_with fail
      refine (CO.out _ hb2).mono ?_
      rintro e w3 ⟨rfl, g3⟩
      have hb3 := bstep9 hb2 hb2.size g3
      clear hb1 g2 hb2 g3
      go_wp2_with fail
      refine (CX.out _ hb3).mono ?_
      rintro e w4 ⟨D, m, d, rfl, hown, g4⟩
      have hb4 := bstep9 hb3 hb3.size g4
      have hml : (rnL xs k x y t l).length = m := by have := hown.1; rw [nmV_len] at this; omega
      have HML := Lib.hid hml
      have HO4 := Lib.hid (World.ownsRow.mono hown hb3.size)
      have hm13 : m ≤ 13 := by have := HLR.out; omega
      clear hb3 g4 hown hml
      by_cases h12 : m ≤ 12
      · have HC := Lib.hid (rnC_ok HP.out HO.out HK.out HX.out (by rw [HML.out]; exact h12))
        have HZ := Lib.hid (rnZ_ok HC.out HK.out HX.out)
        have dd : decide ((12 : Int) < (m : Int)) = false := decide_eq_false (by omega)
        go_wp2_with fail
        go_ret2
        exact ⟨D, m, d, by rw [HC.out]; rfl, by rw [HZ.out]; exact HO4.out, hb4⟩
      · have HC := Lib.hid (rnC_many HP.out HO.out HK.out HX.out (by rw [HML.out]; omega))
        have HZ := Lib.hid (rnZ_no (xs := xs) (l := l) (y := y) (t := t) (by rw [HC.out]; decide))
        have dd : decide ((12 : Int) < (m : Int)) = true := decide_eq_true (by omega)
        go_wp2_with fail
        go_ret2
        exact ⟨none, 0, 0, by rw [HC.out]; rfl, by rw [HZ.out]; exact World.ownsRow_nil _ _ _ _, hb4⟩
  · have HOC : Hid (offC xs l y = q) := Lib.hid ((offC_bad (by rw [← hq]; exact h0)).trans hq.symm)
    have HC := Lib.hid ((rnC_off (xs := xs) (l := l) (y := y) HP.out (by rw [HOC.out]; exact h0)).trans HOC.out)
    have HZ := Lib.hid (rnZ_no (xs := xs) (l := l) (y := y) (t := t) (by rw [HC.out]; exact h0))
    have hd : (q != 0) = true := by simp [h0]
    clear hq h0
    go_enter Tryz.func16, Tryz.ntmps16
    go_wp2_with fail
    refine CP.out.mono ?_
    rintro e w1 ⟨rfl, hb1⟩
    go_wp2_with fail
    refine (CC.out _ hb1).mono ?_
    rintro e w2 ⟨rfl, g2⟩
    have hb2 := bstep9 hb1 hb1.size g2
    go_wp2_with fail
    go_ret2
    exact ⟨none, 0, 0, by rw [HC.out]; rfl, by rw [HZ.out]; exact World.ownsRow_nil _ _ _ _, hb2⟩
end Go.Proofs.YthlilfdndpnbkaaGreatDoor
