/-
  The contract of l11End of the reference.
-/
import Derived.Test.YtkbkgbhnfopgnaaDoorPlCut
namespace Go.Proofs.YtkbkgbhnfopgnaaDoor
set_option linter.unusedVariables false
open Go.RowKit Go.Lib

def EndOut1 (p : Pl) (y : Int) (w : World) (e : Ending) (w' : World) : Prop :=
  ∃ A d, e = .returned (plv11 (enP p y) A d) ∧ (cutL (y - 1) p.ns).length ≤ d ∧ w'.ownsRow w.heap.size 65 5 (.slice A (cutL (y - 1) p.ns).length d) (cutL (y - 1) p.ns).length (nmV (cutL (y - 1) p.ns)) ∧ Below w.heap.size w w'
set_option maxHeartbeats 4000000 in
set_option maxRecDepth 100000 in
theorem cL11End (p : Pl) (A : Option Addr) (d0 : Nat) (y : Int) (w : World) (hb : p.ns.length ≤ 1048576) (hy1 : -3000 ≤ y) (hy2 : y ≤ 3000) (h : NmAt w w.heap.size A p.ns.length p.ns) :
    Calls Tryd.prog 61 #[plv11 p A d0, .int .i64 y] w (EndOut1 p y w) := by
  obtain ⟨j0, hj0, hy0, hy1', hy2'⟩ := info_parts info_nm
  obtain ⟨c, q, f, u, xs⟩ := p
  unfold EndOut1 plv11 enP
  dsimp only at hb h ⊢
  obtain ⟨W0, hW0⟩ : ∃ W0 : World, W0 = (w.alloc (.cells #[.string c, .int .i64 q, .int .i64 f, .int .i64 u, .slice A xs.length d0] 32)).alloc (.cells #[.string ⟨#[]⟩, .int .i64 0, .int .i64 0, .int .i64 0, .slice none 0 0] 32) := ⟨_, rfl⟩
  have hs0 : W0.heap.size = w.heap.size + 1 + 1 := by rw [hW0]; simp
  have hB0 : Below w.heap.size w W0 := by rw [hW0]; exact (below_alloc11 _ _).alloc (by simp) _
  have HX : Hid (Bx W0 w.heap.size [.string c, .int .i64 q, .int .i64 f, .int .i64 u, .slice A xs.length d0]) := Lib.hid (by rw [hW0]; exact (Bx.new w _ _).alloc _)
  have HR : Hid (Bx W0 (w.heap.size + 1) [.string ⟨#[]⟩, .int .i64 0, .int .i64 0, .int .i64 0, .slice none 0 0]) := Lib.hid (by
    rw [hW0]
    have h1 := Bx.new (w.alloc (.cells #[.string c, .int .i64 q, .int .i64 f, .int .i64 u, .slice A xs.length d0] 32)) #[.string ⟨#[]⟩, .int .i64 0, .int .i64 0, .int .i64 0, .slice none 0 0] 32
    simpa using h1)
  have HO0 : Hid ((W0.alloc (.cells #[] 65)).ownsRow W0.heap.size 65 5 (.slice (some ⟨W0.heap.size, 0, none⟩) 0 0) 0 []) := Lib.hid (World.ownsRow_lit (e := 65) (base := W0.heap.size) (size := 5) W0 #[] 0 (Nat.le_refl _) (by decide) rfl)
  have HB1 : Hid (Below W0.heap.size W0 (W0.alloc (.cells #[] 65))) := Lib.hid (below_alloc11 _ _)
  have H := Lib.hid (h.grow hB0)
  have HN := Lib.hid h.1
  have HB0 := Lib.hid hB0
  have HW0 := Lib.hid hW0
  have HS0 := Lib.hid hs0
  obtain ⟨n, hn⟩ : ∃ n, n = xs.length := ⟨_, rfl⟩
  have HNX := Lib.hid hn
  rw [← hn] at hb H HX HW0 ⊢
  clear h hB0 hW0 hs0 hn
  go_enter Tryd.func61, Tryd.ntmps61
  go_wp2_with fail
  rw [← HW0.out, ← HS0.out]
  go_loopw [5, 6] (fun v i wr => ∃ (k m d g : Nat), k ≤ n ∧ v = .slice (some ⟨g, 0, none⟩) m d ∧ i = .int .i64 k ∧ Hid (m = (cutL (y - 1) (xs.take k)).length) ∧ Hid (m ≤ k) ∧ Hid (wr.ownsRow W0.heap.size 65 5 (.slice (some ⟨g, 0, none⟩) m d) m (nmV (cutL (y - 1) (xs.take k)))) ∧ Below W0.heap.size W0 wr) (fun v i _ => n - (RowKit.intOf i).toNat)
  case atStart => exact ⟨0, 0, 0, W0.heap.size, Nat.zero_le _, rfl, rfl, Lib.hid (by simp [cutL]), Lib.hid (Nat.le_refl _), Lib.hid (by simpa [cutL, nmV] using HO0.out), HB1.out⟩
  case round =>
    obtain ⟨k, m, d, g, hk, rfl, rfl, HL, HMK, HO, hbw⟩ := hrel
    obtain ⟨y0, y1, y2, y3, y4, _⟩ := (HX.out.next hbw).five
    have ylt := (HX.out.next hbw).1
    by_cases hlt : k < n
    · obtain ⟨x, hx⟩ : ∃ x, xs[k]? = some x := ⟨xs[k]'(by have := HNX.out; omega), List.getElem?_eq_getElem _⟩
      have H1 := H.out.below hbw (Nat.le_refl _)
      obtain ⟨b, o, rfl, hbl, c0, c1, c2, c3, c4⟩ := H1.row hx
      obtain ⟨V0, hV0⟩ : ∃ V0 : World, V0 = wr.alloc (.cells #[.string x.t, .string x.l, .int .i64 x.s, .int .i64 x.f, .int .i64 (min x.u (y - 1))] 65) := ⟨_, rfl⟩
      have hbV : Below wr.heap.size wr V0 := by rw [hV0]; exact below_alloc11 _ _
      have hvs : V0.heap.size = wr.heap.size + 1 := by rw [hV0]; simp
      have HVS := Lib.hid hvs
      have HBV := Lib.hid (bstep9 hbw hbw.size hbV)
      have HO3 := Lib.hid (keptR HO.out hbV)
      have HVE := Lib.hid hV0
      have HX1 := Lib.hid hx
      have u1 : (0 : Int) ≤ (k : Int) := Int.natCast_nonneg _
      have u2 : (k : Int) < (n : Int) := by omega
      clear hx hV0 hbV H1 hvs
      cases hkp : keepB (cutN (y - 1) x)
      · have HST := Lib.hid (cutL_no HX1.out hkp)
        have hle : decide (x.f ≤ min x.u (y - 1)) = false := hkp
        clear hkp
        go_wp2_with fail
        rw [← HVE.out]
        go_roundw
        case rel => exact ⟨k + 1, m, d, g, by omega, rfl, by go_num, Lib.hid (by rw [HST.out]; exact HL.out), Lib.hid (by have := HMK.out; omega), Lib.hid (by rw [HST.out]; exact HO3.out), HBV.out⟩
        case measure => simp [RowKit.intOf]; omega
      · have HST := Lib.hid (cutL_yes HX1.out hkp)
        have hle : x.f ≤ min x.u (y - 1) := of_decide_eq_true hkp
        have HNEW : Hid (∀ ad, some (⟨V0.heap.size, 0, none⟩ : Addr) = some ad → ∀ j u, (encN (cutN (y - 1) x))[j]? = some u → (V0.alloc (.cells #[.string x.t, .string x.l, .int .i64 x.s, .int .i64 x.f, .int .i64 (min x.u (y - 1))] 65)).cell? (ad.add j) = some u) := Lib.hid (bx_add11 (Bx.new V0 #[.string x.t, .string x.l, .int .i64 x.s, .int .i64 x.f, .int .i64 (min x.u (y - 1))] 65))
        have HO4 := Lib.hid (World.ownsRow.alloc HO3.out (.cells #[.string x.t, .string x.l, .int .i64 x.s, .int .i64 x.f, .int .i64 (min x.u (y - 1))] 65))
        have hmk := HMK.out
        have z5 : m + 1 ≤ maxLen := by unfold maxLen; omega
        have z6 : (m + 1) * 56 ≤ 140737488355328 := by omega
        have hb4 := HBV.out.alloc HBV.out.size (.cells #[.string x.t, .string x.l, .int .i64 x.s, .int .i64 x.f, .int .i64 (min x.u (y - 1))] 65)
        have HB4 := Lib.hid hb4
        clear hkp hb4
        go_wp2_with (at_builtin; rw [← HVE.out, ← HVS.out]; (refine wpList_append_x rfl _ _ 30 rfl W0.heap.size 65 j0 _ 5 56 Tryd.underlying30 hj0 hy0 hy1' hy2' rfl (by decide) _ m (nmV (cutL (y - 1) (xs.take k))) rfl HO4.out (some ⟨V0.heap.size, 0, none⟩) 1 1 (encN (cutN (y - 1) x)) rfl (fun e => by cases e) rfl HNEW.out (encN_one11 _) z5 z6 HB4.out.size ?_))
        intro v5 w5 hown5 hgrow5 _
        obtain ⟨g5, c5, rfl, _, _⟩ := World.ownsRow.form hown5 (by omega)
        have hown5 : w5.ownsRow W0.heap.size 65 5 (.slice (some ⟨g5, 0, none⟩) (m + 1) c5) (m + 1) (nmV (cutL (y - 1) (xs.take (k + 1)))) := by rw [HST.out, nmV_snoc11]; exact hown5
        have HO5 := Lib.hid hown5
        have hbw5 : Below W0.heap.size W0 w5 := HB4.out.grown hgrow5 HB4.out.size (fun j hj => (HO4.out.lt j hj).1)
        have HL5 : Hid (m + 1 = (cutL (y - 1) (xs.take (k + 1))).length) := Lib.hid (by rw [HST.out, List.length_append, ← HL.out]; rfl)
        clear hown5 hgrow5
        go_wp2_with fail
        go_roundw
        case rel => exact ⟨k + 1, m + 1, c5, g5, by omega, rfl, by go_num, HL5, Lib.hid (by omega), HO5, hbw5⟩
        case measure => simp [RowKit.intOf]; omega
    · obtain rfl : k = n := by omega
      have HF : Hid (cutL (y - 1) (xs.take k) = cutL (y - 1) xs) := Lib.hid (by rw [List.take_of_length_le (by have := HNX.out; omega)])
      obtain ⟨r0, r1, r2, r3, r4, q0, q1, q2, q3, q4⟩ := (HR.out.next hbw).five
      have rlt := (HR.out.next hbw).1
      have h1 := HO.out
      rw [HF.out] at h1
      have HLL : Hid (m = (cutL (y - 1) xs).length) := Lib.hid (by rw [HL.out, HF.out])
      obtain ⟨_, _, e, hcn⟩ := row_form5 h1
      injection e with eA _ ec
      subst ec
      subst eA
      have HO1 := Lib.hid h1
      clear h1
      go_wp2_with fail
      refine bodyPost_ret (v := .agg #[.string c, .int .i64 q, .int .i64 f, .int .i64 (min u (y - 1)), .slice (some ⟨g, 0, none⟩) m d]) ?_ rfl ⟨some ⟨g, 0, none⟩, d, by rw [← HLL.out], by rw [← HLL.out]; exact hcn, ?_, ?_⟩
      · simp [results, Tryd.results61, go_sem, World.cell?_setCell_other, World.cell?_setCell_same', r0, r1, r2, r3, r4]
      · rw [← HLL.out]
        refine own_any11 (own_block11 HO1.out (fun b hb => ?_)) (fun b hb => by have := (HO1.out.lt b hb).1; have := HS0.out; omega)
        have hlb := (HO1.out.lt b hb).1
        have hs := HS0.out
        have key : ∀ (W : World) (g i : Nat) (v : Value), b ≠ g → (W.setCell ⟨g, i, none⟩ v).heap[b]? = W.heap[b]? := fun W g i v h => Below.heap_setCell _ _ _ _ h
        simp only [key _ (w.heap.size + 1) _ _ (by omega)]
      · exact below_set5 (HB0.out.trans (hbw.mono HB0.out.size)) (by omega) 0 1 2 3 4 _ _ _ _ _
end Go.Proofs.YtkbkgbhnfopgnaaDoor
