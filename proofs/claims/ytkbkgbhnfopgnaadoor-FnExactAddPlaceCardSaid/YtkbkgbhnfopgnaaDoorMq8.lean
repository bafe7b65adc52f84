/-
  The laws' helpers heldPlaceS on rows of places that bear marks, markPlace and heldPlace on one by value.
-/
import Derived.Test.YtkbkgbhnfopgnaaDoorPlMark
namespace Go.Proofs.YtkbkgbhnfopgnaaDoor
section
set_option linter.unusedVariables false
open Go.RowKit

theorem uHeldQ (lo : Nat) (A : Option Addr) (n d k : Nat) (w : World) (hk : 1 ≤ k) (hk2 : k ≤ 1073741824) (hn : n ≤ 1048576) (h : 0 < n → w.ownsRow lo 65 5 (.slice A n d) n (nmV (marksN k n))) :
    Calls Tryd.prog 60 #[.slice A n d, .int .i64 (k : Int)] w fun e w' => e = .returned (.int .i64 ((k + 5 * n : Nat) : Int)) ∧ Below w.heap.size w w' := by
  rcases Nat.eq_zero_or_pos n with rfl | hp
  · refine (cHeldN_none A d k w).mono ?_
    rintro e w' ⟨rfl, rfl⟩
    exact ⟨rfl, Below.refl _ _⟩
  · exact uHeldN lo A n d k w hk hk2 hn (h hp)
theorem cHeldP_none (A : Option Addr) (c : Nat) (k : Int) (w : World) :
    Calls Tryd.prog 30 #[.slice A 0 c, .int .i64 k] w fun e w' => e = .returned (.int .i64 k) ∧ w = w' := by
  go_enter Tryd.func30, Tryd.ntmps30
  go_wp2
  refine wp_loop_rounds 1 ?_
  rw [rounds_succ]
  go_wp2
  go_ret
  exact ⟨rfl, rfl⟩
set_option maxHeartbeats 4000000 in
set_option maxRecDepth 100000 in
theorem uHeldPl (lo hi : Nat) (A : Option Addr) (n c k : Nat) (es : List PE) (w : World) (hk : 1 ≤ k) (hk2 : k + wideL es ≤ 1073741824) (hn : n ≤ 1048576) (hes : ∀ e ∈ es, e.p.ns.length ≤ 1048576) (h : OwnP w lo hi A n c (marksP k es)) :
    Calls Tryd.prog 30 #[.slice A n c, .int .i64 (k : Int)] w fun e w' => e = .returned (.int .i64 ((k + wideL es : Nat) : Int)) ∧ Below w.heap.size w w' := by
  have hxl : es.length = n := by have := h.len; rwa [marksP_len] at this
  rcases Nat.eq_zero_or_pos n with rfl | hp
  · refine (cHeldP_none A c k w).mono ?_
    rintro e w' ⟨rfl, rfl⟩
    obtain rfl : es = [] := List.eq_nil_of_length_eq_zero hxl
    exact ⟨rfl, Below.refl _ _⟩
  obtain ⟨g, cc, hv, _, hgl⟩ := World.ownsRow.form h.row hp
  obtain ⟨rfl, rfl⟩ : A = some ⟨g, 0, none⟩ ∧ c = cc := by injection hv with h1 h2 h3; exact ⟨h1, h3⟩
  have H := Lib.hid h
  have HX := Lib.hid hxl
  have HES := Lib.hid hes
  have HGL := Lib.hid hgl
  clear hv h hxl hes hgl
  go_enter Tryd.func30, Tryd.ntmps30
  go_wp2_with fail
  go_loopw [1, 5] (fun kk i wr => ∃ (j q : Nat), j ≤ n ∧ i = .int .i64 j ∧ kk = .int .i64 (q : Int) ∧ 1 ≤ q ∧ Hid (q = k + wideL (es.take j)) ∧ Below w.heap.size w wr) (fun _ i _ => n - (intOf i).toNat)
  case atStart => exact ⟨0, k, Nat.zero_le _, rfl, rfl, hk, Lib.hid (by simp [wideL]), Below.refl _ _⟩
  case round =>
    obtain ⟨j, q, hj, rfl, rfl, hq1, HQ, hbw⟩ := hrel
    by_cases hlt : j < n
    · obtain ⟨x, hx⟩ : ∃ x, es[j]? = some x := ⟨es[j]'(by have := HX.out; omega), List.getElem?_eq_getElem _⟩
      have hxm := HES.out x (List.mem_of_getElem? hx)
      have hqb : q + wideP x ≤ 1073741824 := by
        have h1 := wideL_step hx
        have h2 := wideL_le (es := es) (j := j + 1) (by have := HX.out; omega)
        have h3 := HQ.out
        omega
      have hwx : wideP x = 4 + 5 * x.p.ns.length := rfl
      obtain ⟨m, hm⟩ : ∃ m, m = x.p.ns.length := ⟨_, rfl⟩
      rw [← hm] at hwx hxm
      have hx2 := marksP_at (k := k) hx
      rw [← show q = k + wideL (es.take j) from HQ.out] at hx2
      obtain ⟨a0, a1, a2, a3, a4⟩ := plV_at _ j _ hx2
      unfold markP at a0 a1 a2 a3 a4
      dsimp only at a0 a1 a2 a3 a4
      rw [marksN_len, ← hm] at a4
      have hl1 := H.out.row.1
      have KC : Hid (∀ W, Below w.heap.size w W → W.cell? ⟨g, j * 5, none⟩ = some (.string (markB q)) ∧ W.cell? ⟨g, j * 5 + 1, none⟩ = some (.int .i64 ((q : Int) + 1)) ∧ W.cell? ⟨g, j * 5 + 2, none⟩ = some (.int .i64 ((q : Int) + 1 + 1)) ∧ W.cell? ⟨g, j * 5 + 3, none⟩ = some (.int .i64 ((q : Int) + 1 + 1 + 1)) ∧ W.cell? ⟨g, j * 5 + 4, none⟩ = some (.slice x.a m x.d)) := Lib.hid (fun W hW => by
        have ho := (H.out.below hW).row
        exact ⟨(ho.cellAt (j * 5) (by omega)).trans a0, (ho.cellAt (j * 5 + 1) (by omega)).trans a1, (ho.cellAt (j * 5 + 2) (by omega)).trans a2, (ho.cellAt (j * 5 + 3) (by omega)).trans a3, (ho.cellAt (j * 5 + 4) (by omega)).trans a4⟩)
      have CHN : Hid (∀ W, Below w.heap.size w W → Calls Tryd.prog 60 #[.slice x.a m x.d, .int .i64 ((q : Int) + 1 + 1 + 1 + 1)] W fun e w' => e = .returned (.int .i64 ((q + 4 + 5 * m : Nat) : Int)) ∧ Below W.heap.size W w') := Lib.hid (fun W hW => by
        have h1 := uHeldQ lo x.a m x.d (q + 4) W (by omega) (by omega) hxm (fun hp => by
          have h2 := ((H.out.below hW).inner _ (List.mem_of_getElem? hx2) (by rw [markP_len, ← hm]; exact hp)).1
          rw [markP_len, ← hm] at h2
          unfold markP at h2
          dsimp only at h2
          rw [← hm] at h2
          exact h2)
        rw [show ((q + 4 : Nat) : Int) = (q : Int) + 1 + 1 + 1 + 1 by omega] at h1
        exact h1)
      have HM0 := Lib.hid (fun W => cMarkText q W (by omega) (by omega))
      have HQ2 : Hid (q + wideP x = k + wideL (es.take (j + 1))) := Lib.hid (by rw [wideL_step hx]; have := HQ.out; omega)
      have hqq := Lib.hid (show ((q : Int) + (4 + 5 * (m : Int))) = ((q + wideP x : Nat) : Int) by rw [hwx]; omega)
      have hq2 : 1 ≤ q + wideP x := by omega
      have u1 : (0 : Int) ≤ (j : Int) := Int.natCast_nonneg _
      have u2 : (j : Int) < (n : Int) := by omega
      have u3 : (0 : Int) ≤ (q : Int) := Int.natCast_nonneg _
      have u4 : (q : Int) + 4 + 5 * (m : Int) ≤ 1099511627776 := by omega
      have hgw : g < wr.heap.size := Nat.lt_of_lt_of_le HGL.out hbw.size
      obtain ⟨c0, _⟩ := KC.out wr hbw
      obtain ⟨m0, hmm0⟩ : ∃ m, m = markB q := ⟨_, rfl⟩
      rw [← hmm0] at HM0 KC c0
      have z0 : (m0.toList != m0.toList) = false := by simp
      have z2 : ((q : Int) + 1 != (q : Int) + 1) = false := by simp
      have z3 : ((q : Int) + 1 + 1 != (q : Int) + 1 + 1) = false := by simp
      have z4 : ((q : Int) + 1 + 1 + 1 != (q : Int) + 1 + 1 + 1) = false := by simp
      have HB := Lib.hid hbw
      clear hx hx2 hm hqb a0 a1 a2 a3 a4 hl1 hmm0 hbw hwx
      go_wp2_with fail
      obtain ⟨T, f, t0, hT, ht0, hf, hback⟩ := class_of wr
      have k0 : ∀ t, (f t).cell? ⟨g, j * 5, none⟩ = some (.string m0) := fun t => (KC.out _ (bstep9 HB.out HB.out.size (hf t))).1
      have HF := Lib.hid hf
      have HK := Lib.hid hback
      clear hf hback c0
      refine wp_region_class f t0 ht0 (by kernel_rfl) (by kernel_rfl) ?_
      clear ht0
      repeat (go_big_quiet_step (first | (go_at_call 54; exact Calls.class_of HF.out HK.out (HM0.out _))))
      refine wpQuiet_nil ?_
      rintro w1 ⟨t, rfl⟩
      have g1 := bstep9 HB.out HB.out.size (HF.out t)
      obtain ⟨w2, hw2⟩ : ∃ w2, w2 = f t := ⟨_, rfl⟩
      rw [← hw2] at g1 ⊢
      obtain ⟨_, c1, c2, c3, c4⟩ := KC.out w2 g1
      have CHN2 := Lib.hid (CHN.out w2 g1)
      clear HF HK k0 hw2 hT
      go_wp2_with fail
      refine CHN2.out.mono ?_
      rintro e w3 ⟨rfl, g3⟩
      have hbt := bstep9 g1 g1.size g3
      clear c1 c2 c3 c4 g3 CHN CHN2 KC
      go_wp2_with fail
      go_roundw
      case rel => exact ⟨j + 1, q + wideP x, by omega, by go_num, by first | (rw [← hqq.out]; done) | (rw [hqq.out]; done) | (rw [← hqq.out]; go_num), hq2, HQ2, hbt⟩
      case measure => simp [intOf]; omega
    · obtain rfl : j = n := by omega
      have HF : Hid (q = k + wideL es) := Lib.hid (by
        have h2 := HQ.out
        rw [List.take_of_length_le (by have := HX.out; omega)] at h2
        exact h2)
      go_wp2_with fail
      go_ret
      exact ⟨ret_int (by have := HF.out; omega), hbw⟩
set_option maxHeartbeats 1000000 in
theorem uMarkPl1 (lo : Nat) (p : Pl) (A : Option Addr) (d k : Nat) (w : World) (hk : 1 ≤ k) (hk2 : k ≤ 1073741824) (hn : p.ns.length ≤ 1048576) (h : 0 < p.ns.length → w.ownsRow lo 65 5 (.slice A p.ns.length d) p.ns.length (nmV p.ns)) :
    Calls Tryd.prog 29 #[plv11 p A d, .int .i64 (k : Int)] w fun e w' => e = .returned (.int .i64 ((k + 5 * p.ns.length : Nat) : Int)) ∧ ∃ r, (∀ g, r = some g → 0 < p.ns.length ∧ (Value.slice A p.ns.length d).ownBlock = some g) ∧ w.grownBy w' r := by
  obtain ⟨c, q, f, u, ns⟩ := p
  unfold plv11
  dsimp only at hn h ⊢
  obtain ⟨n, hnn⟩ : ∃ n, n = ns.length := ⟨_, rfl⟩
  rw [← hnn] at hn h ⊢
  have hA : Below w.heap.size w (w.alloc (.cells #[.string c, .int .i64 q, .int .i64 f, .int .i64 u, .slice A n d] 32)) := (Below.refl _ _).alloc (Nat.le_refl _) _
  have CM := Lib.hid (uMarkQ lo A n d k ns (w.alloc (.cells #[.string c, .int .i64 q, .int .i64 f, .int .i64 u, .slice A n d] 32)) hk hk2 hn (fun hp => (h hp).alloc _))
  have HA := Lib.hid hA
  have HK : Hid (k ≤ 1073741824 ∧ n ≤ 1048576) := Lib.hid ⟨hk2, hn⟩
  clear h hA hnn
  go_enter Tryd.func29, Tryd.ntmps29
  go_wp2_with fail
  refine CM.out.mono ?_
  rintro e w1 ⟨rfl, _, r, hr, hg⟩
  have HR := Lib.hid hr
  have HG := Lib.hid hg
  clear hr hg
  go_wp2_with fail
  go_ret
  exact ⟨rfl, r, HR.out, ⟨HG.out.os.trans HA.out.os, HG.out.tape.trans HA.out.tape, HG.out.output.trans HA.out.output, Nat.le_trans HA.out.size HG.out.size, fun b hb hn => (HG.out.block b (Nat.lt_of_lt_of_le hb HA.out.size) hn).trans (HA.out.block b hb)⟩⟩
end
section
set_option linter.unusedVariables false
open Go.RowKit

theorem own_pl2 {w : World} {lo hi n c : Nat} {A : Option Addr} {es : List PE} {ps : List Pl} (h : OwnP w lo hi A n c es) (he : plsOf es = ps) : PlAt w w.heap.size A n ps := he ▸ own_pl h
/-- A row of places of one's own and a code. -/
def OutPl (zs : List Pl) (code : Int) (w : World) (e : Ending) (w' : World) : Prop :=
  ∃ A n c es, e = .returned (.tuple #[.slice A n c, .int .i64 code]) ∧ plsOf es = zs ∧ OwnP w' w.heap.size w'.heap.size A n c es ∧ Below w.heap.size w w'
theorem reg_wide {ps : List Pl} (h : regB ps = true) : ∀ es, plsOf es = ps → wideL es ≤ 1048576 := by
  intro es he
  have hl : es.length ≤ 10 := by have := (reg_of h).1; rw [← he, plsOf_len] at this; exact this
  have hm : ∀ e ∈ es, wideP e ≤ 64 := fun e hm => by
    have h1 := (pl_parts (reg_mem h (p := e.p) (by rw [← he]; exact List.mem_map_of_mem hm))).2.2.2.2.1
    have h2 := (names_of h1).1
    unfold wideP; omega
  have key : ∀ (l : List PE), (∀ e ∈ l, wideP e ≤ 64) → wideL l ≤ 64 * l.length := by
    intro l
    induction l with
    | nil => intro _; simp [wideL]
    | cons x l ih =>
      intro hx
      have h1 : wideL (x :: l) = wideP x + wideL l := by simp [wideL]
      have h2 := hx x (by simp)
      have h3 := ih (fun e he => hx e (List.mem_cons_of_mem _ he))
      rw [h1, List.length_cons]; omega
  have := key es hm
  omega
theorem nil_wide : ∀ es, plsOf es = [] → wideL es ≤ 1048576 := by
  intro es he
  obtain rfl : es = [] := by unfold plsOf at he; simpa using he
  simp [wideL]
end
end Go.Proofs.YtkbkgbhnfopgnaaDoor
