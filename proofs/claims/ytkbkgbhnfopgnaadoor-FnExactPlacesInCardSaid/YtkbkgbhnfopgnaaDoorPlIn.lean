/-
  The contracts of PlacesIn of both packages.
-/
import Derived.Test.YtkbkgbhnfopgnaaDoorMq11
namespace Go.Proofs.YtkbkgbhnfopgnaaDoor
set_option linter.unusedVariables false
open Go.RowKit

theorem cIn1 (p : Pl) (A : Option Addr) (d gb : Nat) (y : Int) (w : World) (hB : Bx w gb [.int .i64 y]) :
    Calls Tryd.prog 52 #[enA p A d, .pointer (some ⟨gb, 0, none⟩)] w fun e w' => e = .returned (.bool (exB p y)) ∧ Below w.heap.size w w' := by
  have CE := Lib.hid (fun W => cExists p A d y W)
  have HA := Lib.hid (below_alloc11 w (.cells #[.slice A p.ns.length d, .string p.c, .int .i64 p.k, .int .i64 p.f, .int .i64 p.u] 70))
  have k0 := (hB.2 0 _ rfl).1
  have hl := hB.1
  clear hB
  go_enter Tryd.func52, Tryd.ntmps52
  go_wp2_with fail
  refine (CE.out _).mono ?_
  rintro e w1 ⟨rfl, g1⟩
  have hbt := bstep9 HA.out HA.out.size g1
  clear g1
  go_wp2_with fail
  go_ret
  exact ⟨rfl, hbt⟩
set_option maxHeartbeats 1000000 in
theorem cPlIn_impl (A : Option Addr) (n c : Nat) (ps : List Pl) (y : Int) (w : World) (hb : n ≤ 1048576) (hz : Sz11 ps) (h : PlAt w w.heap.size A n ps) (hsh : w.ShapedOpen Tryd.prog) (her : Er6 w) :
    Calls Tryd.prog 22 #[.slice A n c, .int .i64 y] w (OutT11 (piZ ps y) (pyC ps y) w) := by
  have hmf : ∀ (fn : Fn) (first cap : Array Value) (w : World), (Instr.makeFunc fn first cap).run Tryd.prog w = .ok (.func fn first cap) w := fun _ _ _ _ => rfl
  have hA := below_alloc11 w (.cells #[.int .i64 y] 2)
  have HA := Lib.hid hA
  have HX := Lib.hid (Bx.new w #[.int .i64 y] 2)
  have CK := Lib.hid (cChkReg A n c ps y _ hb hz (h.grow hA) (shaped_below hsh hA) (her.below hA))
  have CW := Lib.hid (fun W (hW : Below w.heap.size w W) (hB : Bx W w.heap.size [.int .i64 y]) => cWhereIn A n c ps w.heap.size (fun p => exB p y) W hb (h.grow hW) (fun p _ A d V hV _ _ => cIn1 p A d w.heap.size y V (hB.next hV)))
  clear h hz hsh her hA
  obtain ⟨q, hq⟩ : ∃ q, q = pyC ps y := ⟨_, rfl⟩
  by_cases h0 : q = 0
  · subst h0
    rw [piZ_ok hq.symm, ← hq]
    rw [← hq] at CK
    clear hq
    go_enter Tryd.func22, Tryd.ntmps22
    go_wp2_with fail
    refine CK.out.mono ?_
    rintro e w1 ⟨rfl, g1⟩
    have hbt := bstep9 HA.out HA.out.size g1
    have CW1 := Lib.hid (CW.out w1 hbt (HX.out.next g1))
    clear g1
    go_wp2_with fail
    refine CW1.out.mono ?_
    rintro e w2 ⟨B, m, d, rfl, hown, g2⟩
    have hb2 := bstep9 hbt hbt.size g2
    have HO := Lib.hid (World.ownsRow.mono hown hbt.size)
    clear hown g2
    go_wp2_with fail
    go_ret2
    exact ⟨B, m, d, rfl, HO.out, hb2⟩
  · rw [piZ_no (by rw [← hq]; exact h0), ← hq]
    rw [← hq] at CK
    have hd : (q != 0) = true := by simp [h0]
    clear hq h0 CW
    go_enter Tryd.func22, Tryd.ntmps22
    go_wp2_with fail
    refine CK.out.mono ?_
    rintro e w1 ⟨rfl, g1⟩
    have hbt := bstep9 HA.out HA.out.size g1
    clear g1
    go_wp2_with fail
    go_ret2
    exact ⟨none, 0, 0, rfl, World.ownsRow_nil _ _ _ _, hbt⟩
set_option maxHeartbeats 2000000 in
set_option maxRecDepth 100000 in
theorem cPlIn_spec (A : Option Addr) (n c : Nat) (ps : List Pl) (y : Int) (w : World) (hb : n ≤ 1048576) (hz : Sz11 ps) (h : PlAt w w.heap.size A n ps) :
    Calls Tryd.prog 21 #[.slice A n c, .int .i64 y] w (OutT11 (piZ ps y) (pyC ps y) w) := by
  obtain ⟨i0, hi0, hz0, hz1, hz2⟩ := info_parts info_strW
  have CK := Lib.hid (cL11Year A n c ps y w hb hz h)
  have CE := Lib.hid (fun p A d W => cL11Ex p A d y W)
  have H := Lib.hid h
  have HN := Lib.hid h.1
  clear h hz
  obtain ⟨q, hq⟩ : ∃ q, q = pyC ps y := ⟨_, rfl⟩
  by_cases h0 : q = 0
  · subst h0
    rw [piZ_ok hq.symm, ← hq]
    rw [← hq] at CK
    clear hq
    go_enter Tryd.func21, Tryd.ntmps21
    go_wp2_with fail
    refine CK.out.mono ?_
    rintro e w1 ⟨rfl, hbt⟩
    have HO0 := Lib.hid (World.ownsRow_lit (e := 9) (base := w.heap.size) (size := 1) w1 #[] 0 hbt.size (by decide) rfl)
    have hb1a := hbt.alloc hbt.size (.cells #[] 9)
    go_wp2_with fail
    go_loopw [7, 8] (fun o i wr => ∃ (k m d : Nat) (B : Option Addr), k ≤ n ∧ i = .int .i64 k ∧ o = .slice B m d ∧ Hid (m ≤ k) ∧ Hid (wr.ownsRow w.heap.size 9 1 (.slice B m d) m (strV (cdZ (fun p => exB p y) (ps.take k)))) ∧ Below w.heap.size w wr) (fun _ i _ => n - (intOf i).toNat)
    case atStart => exact ⟨0, 0, 0, _, Nat.zero_le _, rfl, rfl, Lib.hid (Nat.le_refl _), HO0, hb1a⟩
    case round =>
      clear HO0 hb1a hbt
      obtain ⟨k, m, d, B, hk, rfl, rfl, HM, HO, hbw⟩ := hrel
      by_cases hlt : k < n
      · obtain ⟨p, hp⟩ : ∃ p, ps[k]? = some p := ⟨ps[k]'(by have := HN.out; omega), List.getElem?_eq_getElem _⟩
        have HRR := Lib.hid ((H.out.below hbw (Nat.le_refl _)).row hp)
        obtain ⟨b, o, rfl, hbl, A1, d1, c0, c1, c2, c3, c4, hnm, hd⟩ := HRR.out
        have CX := Lib.hid (CE.out p A1 d1 wr)
        have HP := Lib.hid hp
        have u1 : (0 : Int) ≤ (k : Int) := Int.natCast_nonneg _
        have u2 : (k : Int) < (n : Int) := by omega
        have l1 := Nat.lt_of_lt_of_le hbl hbw.size
        clear hp hnm hd HRR
        cases hf : exB p y
        · rw [hf] at CX
          have HST := Lib.hid (cdZ_no (P := fun p => exB p y) HP.out hf)
          clear hf
          go_wp2_with fail
          refine CX.out.mono ?_
          rintro e w2 ⟨rfl, g2⟩
          have hbt := bstep9 hbw hbw.size g2
          have HO2 : Hid (w2.ownsRow w.heap.size 9 1 (.slice B m d) m (strV (cdZ (fun p => exB p y) (ps.take (k + 1))))) := Lib.hid (by rw [HST.out]; exact keptW HO.out g2)
          clear g2 c0 c1 c2 c3 c4
          go_wp2_with fail
          go_roundw
          case rel => exact ⟨k + 1, m, d, B, by omega, by go_num, rfl, Lib.hid (by have := HM.out; omega), HO2, hbt⟩
          case measure => simp [intOf]; omega
        · rw [hf] at CX
          have HST := Lib.hid (cdZ_yes (P := fun p => exB p y) HP.out hf)
          clear hf
          go_wp2_with fail
          refine CX.out.mono ?_
          rintro e w2 ⟨rfl, g2⟩
          have hbt := bstep9 hbw hbw.size g2
          have hown := keptW HO.out g2
          have hmk := HM.out
          have q0 : w2.cell? ⟨b, o + k * 5, none⟩ = some (.string p.c) := (g2.cell (p := ⟨b, o + k * 5, none⟩) l1).trans c0
          clear g2 c0 c1 c2 c3 c4
          go_wp2_with (at_builtin; refine wpList_append_own _ rfl _ _ 46 rfl w.heap.size 9 i0 _ 1 16 Tryd.underlying46 hi0 hz0 hz1 hz2 rfl (by decide) _ _ _ rfl (hown.alloc _) ⟨w2.heap.size, 0, none⟩ 1 1 [.string p.c] rfl rfl ?d1 ?d2 ?d3 ?d4 ?d5 ?_)
          case d1 => exact one_cell' _ _ _ (new_one _ _ _)
          case d2 => intro u hu; simp at hu; subst hu; rfl
          case d3 => unfold maxLen; omega
          case d4 => omega
          case d5 => have := hbt.size; simp; omega
          intro v' w3 hown3 hgrow3 _
          rw [strV_snocW] at hown3
          have hb3 : Below w.heap.size w w3 := (hbt.alloc hbt.size _).grown hgrow3 (by have := hbt.size; simp; omega) (fun x hx => (hown.lt x hx).1)
          have HO3 : Hid (w3.ownsRow w.heap.size 9 1 v' (m + 1) (strV (cdZ (fun p => exB p y) (ps.take (k + 1))))) := Lib.hid (by rw [HST.out]; exact hown3)
          obtain ⟨g', c', rfl, _, _⟩ := World.ownsRow.form HO3.out (by omega)
          clear hown3 hown hgrow3 q0
          go_wp2_with fail
          go_roundw
          case rel => exact ⟨k + 1, m + 1, c', some ⟨g', 0, none⟩, by omega, by go_num, rfl, Lib.hid (by omega), HO3, hb3⟩
          case measure => simp [intOf]; omega
      · have HF : Hid (wr.ownsRow w.heap.size 9 1 (.slice B m d) m (strV (cdZ (fun p => exB p y) ps))) := Lib.hid (by have := HO.out; rwa [List.take_of_length_le (by have := HN.out; omega)] at this)
        go_wp2_with fail
        go_ret2
        exact ⟨B, m, d, rfl, HF.out, hbw⟩
  · rw [piZ_no (by rw [← hq]; exact h0), ← hq]
    rw [← hq] at CK
    have hd : (q != 0) = true := by simp [h0]
    clear hq h0
    go_enter Tryd.func21, Tryd.ntmps21
    go_wp2_with fail
    refine CK.out.mono ?_
    rintro e w1 ⟨rfl, hbt⟩
    go_wp2_with fail
    go_ret2
    exact ⟨none, 0, 0, rfl, World.ownsRow_nil _ _ _ _, hbt⟩
end Go.Proofs.YtkbkgbhnfopgnaaDoor
