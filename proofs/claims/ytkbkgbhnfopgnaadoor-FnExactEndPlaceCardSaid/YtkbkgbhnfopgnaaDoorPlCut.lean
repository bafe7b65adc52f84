/-
  The contracts of cutTo of the program and of l11End of the reference.
-/
import Derived.Test.YtkbkgbhnfopgnaaDoorPlEnP
import Derived.Test.YtkbkgbhnfopgnaaDoorPlApp
import Derived.Test.YtkbkgbhnfopgnaaDoorPlCl
namespace Go.Proofs.YtkbkgbhnfopgnaaDoor
set_option linter.unusedVariables false
open Go.RowKit Go.Lib

def CutOut (zs : List Nm) (w : World) (e : Ending) (w' : World) : Prop :=
  ∃ A d, e = .returned (.slice A zs.length d) ∧ zs.length ≤ d ∧ w'.ownsRow w.heap.size 65 5 (.slice A zs.length d) zs.length (nmV zs) ∧ Below w.heap.size w w'
theorem nmV_snoc11 (xs : List Nm) (x : Nm) : nmV (xs ++ [x]) = nmV xs ++ encN x := by unfold nmV; simp
theorem encN_one11 (x : Nm) : ∀ u ∈ encN x, u.oneCell' = true := fun u hu => nm_one11 [x] u (by unfold nmV; simpa using hu)
theorem bx_add11 {w : World} {b : Nat} {l : List Value} (h : Bx w b l) : ∀ ad, some (⟨b, 0, none⟩ : Addr) = some ad → ∀ j u, l[j]? = some u → w.cell? (ad.add j) = some u := fun ad e j u hu => by
  obtain rfl := Option.some.inj e
  rw [add_plain', Nat.zero_add]
  exact (h.2 j u hu).1
set_option maxHeartbeats 4000000 in
set_option maxRecDepth 100000 in
theorem cCutTo (A : Option Addr) (n c : Nat) (xs : List Nm) (f y : Int) (w : World) (hb : n ≤ 1048576) (h : NmAt w w.heap.size A n xs) (hm : ∀ x ∈ xs, max x.f f = x.f ∧ spB x.f (min x.u y) = keepB (cutN y x)) :
    Calls Tryd.prog 63 #[.slice A n c, .agg #[.int .i64 f, .int .i64 y]] w (CutOut (cutL y xs) w) := by
  obtain ⟨j0, hj0, hy0, hy1, hy2⟩ := info_parts info_nm
  obtain ⟨W0, hW0⟩ : ∃ W0 : World, W0 = w.alloc (.cells #[.int .i64 f, .int .i64 y] 29) := ⟨_, rfl⟩
  have hB0 : Below w.heap.size w W0 := by rw [hW0]; exact below_alloc11 _ _
  have HX : Hid (Bx W0 w.heap.size [.int .i64 f, .int .i64 y]) := Lib.hid (by rw [hW0]; exact Bx.new w _ _)
  have H := Lib.hid (h.grow hB0)
  have HN := Lib.hid h.1
  have HM := Lib.hid hm
  have HB0 := Lib.hid hB0
  have HW0 := Lib.hid hW0
  have CM := Lib.hid (fun x u v W => cMeet x u f v W)
  have CV := Lib.hid (fun x y W => cValid x y W)
  clear h hm hB0 hW0
  go_enter Tryd.func63, Tryd.ntmps63
  go_wp2_with fail
  rw [← HW0.out]
  go_loopw [5, 10] (fun v i wr => ∃ (k m d : Nat) (B : Option Addr), k ≤ n ∧ v = .slice B m d ∧ i = .int .i64 k ∧ Hid (m = (cutL y (xs.take k)).length) ∧ Hid (m ≤ k) ∧ Hid (wr.ownsRow W0.heap.size 65 5 (.slice B m d) m (nmV (cutL y (xs.take k)))) ∧ Below W0.heap.size W0 wr) (fun v i _ => n - (RowKit.intOf i).toNat)
  case atStart => exact ⟨0, 0, 0, none, Nat.zero_le _, rfl, rfl, Lib.hid (by simp [cutL]), Lib.hid (Nat.le_refl _), Lib.hid (by simpa [cutL, nmV] using World.ownsRow_nil W0 W0.heap.size 65 5), Below.refl _ _⟩
  case round =>
    obtain ⟨k, m, d, B, hk, rfl, rfl, HL, HMK, HO, hbw⟩ := hrel
    by_cases hlt : k < n
    · obtain ⟨x, hx⟩ : ∃ x, xs[k]? = some x := ⟨xs[k]'(by have := HN.out; omega), List.getElem?_eq_getElem _⟩
      obtain ⟨b, o, rfl, hbl, c0, c1, c2, c3, c4⟩ := (H.out.below hbw (Nat.le_refl _)).row hx
      obtain ⟨y0, y1⟩ : wr.cell? ⟨w.heap.size, 0, none⟩ = some (.int .i64 f) ∧ wr.cell? ⟨w.heap.size, 1, none⟩ = some (.int .i64 y) := ⟨((HX.out.next hbw).2 0 _ rfl).1, ((HX.out.next hbw).2 1 _ rfl).1⟩
      have ylt := (HX.out.next hbw).1
      obtain ⟨V0, hV0⟩ : ∃ V0 : World, V0 = wr.alloc (.cells #[.string x.t, .string x.l, .int .i64 x.s, .int .i64 x.f, .int .i64 x.u] 65) := ⟨_, rfl⟩
      have hbV : Below wr.heap.size wr V0 := by rw [hV0]; exact below_alloc11 _ _
      have HXV : Hid (Bx V0 wr.heap.size [.string x.t, .string x.l, .int .i64 x.s, .int .i64 x.f, .int .i64 x.u]) := Lib.hid (by rw [hV0]; exact Bx.new wr _ _)
      have HBV := Lib.hid hbV
      have HVE := Lib.hid hV0
      have HX1 := Lib.hid hx
      have HMX := Lib.hid (HM.out x (List.mem_of_getElem? hx))
      have u1 : (0 : Int) ≤ (k : Int) := Int.natCast_nonneg _
      have u2 : (k : Int) < (n : Int) := by omega
      clear hx hV0 hbV
      go_wp2_with fail
      rw [← HVE.out]
      refine (CM.out x.f x.u y _).mono ?_
      rintro e w1 ⟨rfl, g1⟩
      rw [HMX.out.1]
      have hX1 := HXV.out.next g1
      have hb1 := bstep9 HBV.out HBV.out.size g1
      obtain ⟨x0, x1, x2, x3, x4, f0, f1, f2, f3, f4⟩ := hX1.five
      have hX2 : Bx ((w1.setCell ⟨wr.heap.size, 3, none⟩ (.int .i64 x.f)).setCell ⟨wr.heap.size, 4, none⟩ (.int .i64 (min x.u y))) wr.heap.size [.string x.t, .string x.l, .int .i64 x.s, .int .i64 x.f, .int .i64 (min x.u y)] := (hX1.set 3 (.int .i64 x.f) (by simp)).set 4 (.int .i64 (min x.u y)) (by simp)
      have hb2 := (hb1.setCell (p := ⟨wr.heap.size, 3, none⟩) (Nat.le_refl _) (.int .i64 x.f)).setCell (p := ⟨wr.heap.size, 4, none⟩) (Nat.le_refl _) (.int .i64 (min x.u y))
      have HX2 := Lib.hid hX2
      have HB2 := Lib.hid hb2
      have CV2 := Lib.hid (CV.out x.f (min x.u y) ((w1.setCell ⟨wr.heap.size, 3, none⟩ (.int .i64 x.f)).setCell ⟨wr.heap.size, 4, none⟩ (.int .i64 (min x.u y))))
      rw [HMX.out.2] at CV2
      clear hX1 hb1 hX2 hb2 g1
      go_wp2_with fail
      refine CV2.out.mono ?_
      rintro e w3 ⟨rfl, g3⟩
      have hb3 := bstep9 HB2.out HB2.out.size g3
      obtain ⟨z0, z1, z2, z3, z4, _⟩ := (HX2.out.next g3).five
      have HO3 := Lib.hid (keptR HO.out hb3)
      have HBW3 := Lib.hid (bstep9 hbw hbw.size hb3)
      clear g3 hb3 x0 x1 x2 x3 x4 f0 f1 f2 f3 f4
      cases hkp : keepB (cutN y x)
      · have HST := Lib.hid (cutL_no HX1.out hkp)
        clear hkp
        go_wp2_with fail
        go_roundw
        case rel => exact ⟨k + 1, m, d, B, by omega, rfl, by go_num, Lib.hid (by rw [HST.out]; exact HL.out), Lib.hid (by have := HMK.out; omega), Lib.hid (by rw [HST.out]; exact HO3.out), HBW3.out⟩
        case measure => simp [RowKit.intOf]; omega
      · have HST := Lib.hid (cutL_yes HX1.out hkp)
        have HNEW : Hid (∀ ad, some (⟨w3.heap.size, 0, none⟩ : Addr) = some ad → ∀ j u, (encN (cutN y x))[j]? = some u → (w3.alloc (.cells #[.string x.t, .string x.l, .int .i64 x.s, .int .i64 x.f, .int .i64 (min x.u y)] 65)).cell? (ad.add j) = some u) := Lib.hid (bx_add11 (Bx.new w3 #[.string x.t, .string x.l, .int .i64 x.s, .int .i64 x.f, .int .i64 (min x.u y)] 65))
        have HO4 := Lib.hid (World.ownsRow.alloc HO3.out (.cells #[.string x.t, .string x.l, .int .i64 x.s, .int .i64 x.f, .int .i64 (min x.u y)] 65))
        have hmk := HMK.out
        have z5 : m + 1 ≤ maxLen := by unfold maxLen; omega
        have z6 : (m + 1) * 56 ≤ 140737488355328 := by omega
        have hb4 := HBW3.out.alloc HBW3.out.size (.cells #[.string x.t, .string x.l, .int .i64 x.s, .int .i64 x.f, .int .i64 (min x.u y)] 65)
        have HB4 := Lib.hid hb4
        clear hkp hb4
        go_wp2_with (at_builtin; (refine wpList_append_x rfl _ _ 30 rfl W0.heap.size 65 j0 _ 5 56 Tryd.underlying30 hj0 hy0 hy1 hy2 rfl (by decide) _ m (nmV (cutL y (xs.take k))) rfl HO4.out (some ⟨w3.heap.size, 0, none⟩) 1 1 (encN (cutN y x)) rfl (fun e => by cases e) rfl HNEW.out (encN_one11 _) z5 z6 HB4.out.size ?_))
        intro v5 w5 hown5 hgrow5 _
        obtain ⟨g5, c5, rfl, _, _⟩ := World.ownsRow.form hown5 (by omega)
        have hown5 : w5.ownsRow W0.heap.size 65 5 (.slice (some ⟨g5, 0, none⟩) (m + 1) c5) (m + 1) (nmV (cutL y (xs.take (k + 1)))) := by rw [HST.out, nmV_snoc11]; exact hown5
        have HO5 := Lib.hid hown5
        have hbw5 : Below W0.heap.size W0 w5 := HB4.out.grown hgrow5 HB4.out.size (fun j hj => (HO4.out.lt j hj).1)
        have HL5 : Hid (m + 1 = (cutL y (xs.take (k + 1))).length) := Lib.hid (by rw [HST.out, List.length_append, ← HL.out]; rfl)
        clear hown5 hgrow5
        go_wp2_with fail
        go_roundw
        case rel => exact ⟨k + 1, m + 1, c5, some ⟨g5, 0, none⟩, by omega, rfl, by go_num, HL5, Lib.hid (by omega), HO5, hbw5⟩
        case measure => simp [RowKit.intOf]; omega
    · obtain rfl : k = n := by omega
      have HF : Hid (cutL y (xs.take k) = cutL y xs) := Lib.hid (by rw [List.take_of_length_le (by have := HN.out; omega)])
      have HLL := HL.out
      rw [HF.out] at HLL
      subst HLL
      go_wp2_with fail
      go_ret
      have h1 := HO.out
      rw [HF.out] at h1
      obtain ⟨_, _, e, hcn⟩ := row_form5 h1
      injection e with _ _ e
      subst e
      exact ⟨B, d, rfl, hcn, h1.mono HB0.out.size, HB0.out.trans (hbw.mono HB0.out.size)⟩
end Go.Proofs.YtkbkgbhnfopgnaaDoor
