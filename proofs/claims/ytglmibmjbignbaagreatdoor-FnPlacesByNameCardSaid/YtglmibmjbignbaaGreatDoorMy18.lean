/-
  The laws' helpers on places: markPlaceS and heldPlaceS on rows of one's own, markPlace on one by value.
-/
import Derived.Test.YtglmibmjbignbaaGreatDoorMy16
import Derived.Test.YtglmibmjbignbaaGreatDoorMy13
import Derived.Test.YtglmibmjbignbaaGreatDoorMy17
import Derived.Test.YtglmibmjbignbaaGreatDoorPlFS
import Derived.Deep.RegionHeld3
import Derived.Test.YtglmibmjbignbaaGreatDoorPlApp
import Derived.Test.YtglmibmjbignbaaGreatDoorMy14
namespace Go.Proofs.YtglmibmjbignbaaGreatDoor
section
set_option linter.unusedVariables false
open Go.RowKit

theorem set_self11 {α : Type} : ∀ {l : List α} {i : Nat} {v : α}, l[i]? = some v → l.set i v = l
  | [], i, v, h => by simp at h
  | x :: l, 0, v, h => by obtain rfl : x = v := by simpa using h
                          rfl
  | x :: l, i + 1, v, h => by rw [List.set_cons_succ, set_self11 (l := l) (by simpa using h)]
def wideP (e : PE) : Nat := 4 + 5 * e.p.ns.length
def wideL (es : List PE) : Nat := (es.map wideP).sum
def markP (k : Nat) (e : PE) : PE := ⟨⟨markB k, (k : Int) + 1, (k : Int) + 1 + 1, (k : Int) + 1 + 1 + 1, marksN (k + 4) e.p.ns.length⟩, e.a, e.d⟩
def marksP : Nat → List PE → List PE
  | _, [] => []
  | k, e :: es => markP k e :: marksP (k + wideP e) es
theorem marksP_len : ∀ (es : List PE) (k : Nat), (marksP k es).length = es.length
  | [], k => rfl
  | e :: es, k => by unfold marksP; simp [marksP_len es]
theorem marksP_app : ∀ (xs ys : List PE) (k : Nat), marksP k (xs ++ ys) = marksP k xs ++ marksP (k + wideL xs) ys
  | [], ys, k => by simp [marksP, wideL]
  | x :: xs, ys, k => by
    have : wideL (x :: xs) = wideP x + wideL xs := by simp [wideL]
    show markP k x :: marksP (k + wideP x) (xs ++ ys) = (markP k x :: marksP (k + wideP x) xs) ++ _
    rw [marksP_app xs ys, this, List.cons_append, Nat.add_assoc]
theorem wideL_step {es : List PE} {j : Nat} {e : PE} (h : es[j]? = some e) : wideL (es.take (j + 1)) = wideL (es.take j) + wideP e := by
  rw [take_snocP h]; simp [wideL]
theorem marksP_step {es : List PE} {j k : Nat} {e : PE} (h : es[j]? = some e) : marksP k (es.take (j + 1)) = marksP k (es.take j) ++ [markP (k + wideL (es.take j)) e] := by
  rw [take_snocP h, marksP_app]; rfl
theorem wideL_le {es : List PE} {j : Nat} (h : j ≤ es.length) : wideL (es.take j) ≤ wideL es := by
  have : wideL es = wideL (es.take j) + wideL (es.drop j) := by
    conv => lhs; rw [← List.take_append_drop j es]
    unfold wideL; rw [List.map_append, List.sum_append]
  omega
theorem marksP_at : ∀ {es : List PE} {j k : Nat} {e : PE}, es[j]? = some e → (marksP k es)[j]? = some (markP (k + wideL (es.take j)) e)
  | [], j, k, e, h => by simp at h
  | x :: es, 0, k, e, h => by
    obtain rfl : x = e := by simpa using h
    unfold marksP; simp [wideL]
  | x :: es, j + 1, k, e, h => by
    have ih := marksP_at (es := es) (j := j) (k := k + wideP x) (by simpa using h)
    unfold marksP
    rw [List.getElem?_cons_succ, ih, List.take_succ_cons]
    have : wideL (x :: es.take j) = wideP x + wideL (es.take j) := by simp [wideL]
    rw [this, Nat.add_assoc]
theorem markP_len (k : Nat) (e : PE) : (markP k e).p.ns.length = e.p.ns.length := by unfold markP; exact marksN_len _ _
theorem wide_tot : ∀ (es : List PE), wideL es ≤ 5 * (es.length + totPs (plsOf es))
  | [] => by simp [wideL]
  | e :: es => by
    have ih := wide_tot es
    have h1 : wideL (e :: es) = wideP e + wideL es := by simp [wideL]
    have h2 : totPs (plsOf (e :: es)) = totP e.p + totPs (plsOf es) := by simp [totPs, plsOf]
    rw [h1, h2, List.length_cons]
    unfold wideP totP
    omega
/-- The list, its first j elements marked. -/
def markedP (k j : Nat) (es : List PE) : List PE := marksP k (es.take j) ++ es.drop j
theorem markedP_step {es : List PE} {j k : Nat} {e : PE} (h : es[j]? = some e) : (markedP k j es).set j (markP (k + wideL (es.take j)) e) = markedP k (j + 1) es := by
  have hj := (List.getElem?_eq_some_iff.1 h).1
  have hx := (List.getElem?_eq_some_iff.1 h).2
  unfold markedP
  have hl : (marksP k (es.take j)).length = j := by rw [marksP_len, List.length_take]; omega
  rw [List.set_append_right _ _ (by omega), hl, Nat.sub_self, List.drop_eq_getElem_cons hj, hx, List.set_cons_zero, marksP_step h, List.append_assoc]
  rfl
theorem markedP_at {es : List PE} {j k : Nat} {e : PE} (h : es[j]? = some e) : (markedP k j es)[j]? = some e := by
  have hj := (List.getElem?_eq_some_iff.1 h).1
  have hl : (marksP k (es.take j)).length = j := by rw [marksP_len, List.length_take]; omega
  unfold markedP
  rw [List.getElem?_append_right (by omega), hl, Nat.sub_self, List.getElem?_drop]
  simpa using h
theorem markedP_len (es : List PE) (j k : Nat) (h : j ≤ es.length) : (markedP k j es).length = es.length := by
  unfold markedP; rw [List.length_append, marksP_len, List.length_take, List.length_drop]; omega
theorem markedP_all (es : List PE) (k : Nat) : markedP k es.length es = marksP k es := by unfold markedP; simp

/-- Marks in the names of one place. -/
def MarkedQ (A : Option Addr) (n d k : Nat) (w : World) (e : Ending) (w' : World) : Prop :=
  e = .returned (.int .i64 ((k + 5 * n : Nat) : Int)) ∧ (∀ lo xs, (0 < n → w.ownsRow lo 100 5 (.slice A n d) n xs) → 0 < n → w'.ownsRow lo 100 5 (.slice A n d) n (nmV (marksN k n))) ∧ ∃ r, (∀ g, r = some g → 0 < n ∧ (Value.slice A n d).ownBlock = some g) ∧ w.grownBy w' r
theorem uMarkQ (lo : Nat) (A : Option Addr) (n d k : Nat) (xs : List Nm) (w : World) (hk : 1 ≤ k) (hk2 : k ≤ 1073741824) (hn : n ≤ 1048576) (h : 0 < n → w.ownsRow lo 100 5 (.slice A n d) n (nmV xs)) :
    Calls Tryz.prog 112 #[.slice A n d, .int .i64 (k : Int)] w (MarkedQ A n d k w) := by
  rcases Nat.eq_zero_or_pos n with rfl | hp
  · refine (cMarkN_none A d k w).mono ?_
    rintro e w' ⟨rfl, rfl⟩
    exact ⟨rfl, fun lo xs h hp => absurd hp (by omega), none, fun g hg => (by cases hg), World.grownBy.refl _ _⟩
  · refine (uMarkN lo A n d k xs w hk hk2 hn (h hp)).mono ?_
    rintro e w' ⟨rfl, ho, hg⟩
    refine ⟨rfl, fun lo' xs' h' _ => own_any11 ho (fun b hb => ((h' hp).lt b hb).1), _, fun g hg' => ⟨hp, hg'⟩, hg⟩

def MarkedPl (lo hi : Nat) (A : Option Addr) (n c k : Nat) (es : List PE) (w : World) (e : Ending) (w' : World) : Prop :=
  e = .returned (.int .i64 ((k + wideL es : Nat) : Int)) ∧ OwnP w' lo hi A n c (marksP k es) ∧ FrameI lo hi w w'
theorem cMarkP_none (A : Option Addr) (c : Nat) (k : Int) (w : World) :
    Calls Tryz.prog 44 #[.slice A 0 c, .int .i64 k] w fun e w' => e = .returned (.int .i64 k) ∧ w = w' := by
  go_enter Tryz.func44, Tryz.ntmps44
  go_wp2
  refine wp_loop_rounds 1 ?_
  rw [rounds_succ]
  go_wp2
  go_ret
  exact ⟨rfl, rfl⟩
set_option maxHeartbeats 4000000 in
set_option maxRecDepth 100000 in
theorem uMarkPl (lo hi : Nat) (A : Option Addr) (n c k : Nat) (es : List PE) (w : World) (hk : 1 ≤ k) (hk2 : k + wideL es ≤ 1073741824) (hn : n ≤ 1048576) (hes : ∀ e ∈ es, e.p.ns.length ≤ 1048576) (h : OwnP w lo hi A n c es) :
    Calls Tryz.prog 44 #[.slice A n c, .int .i64 (k : Int)] w (MarkedPl lo hi A n c k es w) := by
  have hxl := h.len
  rcases Nat.eq_zero_or_pos n with rfl | hp
  · refine (cMarkP_none A c k w).mono ?_
    rintro e w' ⟨rfl, rfl⟩
    obtain rfl : es = [] := List.eq_nil_of_length_eq_zero hxl
    exact ⟨rfl, h, FrameI.refl _ _ _⟩
  obtain ⟨g, cc, hv, _, hgl⟩ := World.ownsRow.form h.row hp
  obtain ⟨rfl, rfl⟩ : A = some ⟨g, 0, none⟩ ∧ c = cc := by injection hv with h1 h2 h3; exact ⟨h1, h3⟩
  have hlo : lo ≤ g ∧ g < hi := ⟨(h.row.lt g rfl).1, h.top g rfl⟩
  have H := Lib.hid h
  have HX := Lib.hid hxl
  have HES := Lib.hid hes
  have HLO := Lib.hid hlo
  clear hv h hxl hes hlo
  go_enter Tryz.func44, Tryz.ntmps44
  go_wp2_with fail
  go_loopw [1, 5] (fun kk i wr => ∃ (j q : Nat), j ≤ n ∧ i = .int .i64 j ∧ kk = .int .i64 (q : Int) ∧ 1 ≤ q ∧ Hid (q = k + wideL (es.take j)) ∧ Hid (OwnP wr lo hi (some ⟨g, 0, none⟩) n c (markedP k j es)) ∧ Hid (FrameI lo hi w wr)) (fun _ i _ => n - (intOf i).toNat)
  case atStart => exact ⟨0, k, Nat.zero_le _, rfl, rfl, hk, Lib.hid (by simp [wideL]), by simpa [markedP, marksP] using H, Lib.hid (FrameI.refl _ _ _)⟩
  case round =>
    obtain ⟨j, q, hj, rfl, rfl, hq1, HQ, HR, HG⟩ := hrel
    by_cases hlt : j < n
    · obtain ⟨x, hx⟩ : ∃ x, es[j]? = some x := ⟨es[j]'(by have := HX.out; omega), List.getElem?_eq_getElem _⟩
      have hxm := HES.out x (List.mem_of_getElem? hx)
      have hqb : q + wideP x ≤ 1073741824 := by
        have h1 := wideL_step hx
        have h2 := wideL_le (es := es) (j := j + 1) (by have := HX.out; omega)
        have h3 := HQ.out
        omega
      have hwx : wideP x = 4 + 5 * x.p.ns.length := rfl
      obtain ⟨m, hm⟩ : ∃ m, m = x.p.ns.length := ⟨_, rfl⟩
      rw [← hm] at hwx hxm
      have hm0 := fun W => cMarkText q W (by omega) (by omega)
      have HM0 := Lib.hid hm0
      have HXX := Lib.hid hx
      have HMM := Lib.hid hm
      have u1 : (0 : Int) ≤ (j : Int) := Int.natCast_nonneg _
      have u2 : (j : Int) < (n : Int) := by omega
      have u3 : (0 : Int) ≤ (q : Int) := Int.natCast_nonneg _
      have u4 : (q : Int) + 4 + 5 * (m : Int) ≤ 1099511627776 := by omega
      have hq4 : q + 4 ≤ 1073741824 := by omega
      clear hm0 hx hm hqb
      go_wp2_with fail
      refine (HM0.out _).mono ?_
      rintro e w1 ⟨rfl, hb1⟩
      have hO1 := HR.out.below hb1
      have hown1 := hO1.row
      have hl1 := hown1.1
      obtain ⟨a0, a1, a2, a3, a4⟩ := plV_at _ j x (markedP_at (k := k) HXX.out)
      obtain ⟨v0, d0⟩ : ∃ v, w1.cell? ⟨g, j * 5, none⟩ = some v := ⟨_, (hown1.cellAt (j * 5) (by omega)).trans a0⟩
      obtain ⟨v1, d1⟩ : ∃ v, w1.cell? ⟨g, j * 5 + 1, none⟩ = some v := ⟨_, (hown1.cellAt (j * 5 + 1) (by omega)).trans a1⟩
      obtain ⟨v2, d2⟩ : ∃ v, w1.cell? ⟨g, j * 5 + 2, none⟩ = some v := ⟨_, (hown1.cellAt (j * 5 + 2) (by omega)).trans a2⟩
      obtain ⟨v3, d3⟩ : ∃ v, w1.cell? ⟨g, j * 5 + 3, none⟩ = some v := ⟨_, (hown1.cellAt (j * 5 + 3) (by omega)).trans a3⟩
      have d4 : w1.cell? ⟨g, j * 5 + 4, none⟩ = some (.slice x.a m x.d) := by rw [HMM.out]; exact (hown1.cellAt (j * 5 + 4) (by omega)).trans a4
      have f0 := hown1.frozenAt (j * 5)
      have f1 := hown1.frozenAt (j * 5 + 1)
      have f2 := hown1.frozenAt (j * 5 + 2)
      have f3 := hown1.frozenAt (j * 5 + 3)
      have s1 := hown1.stored (j * 5) (.string (markB q))
      have s2 := s1.1.stored (j * 5 + 1) (.int .i64 ((q : Int) + 1))
      have s3 := s2.1.stored (j * 5 + 2) (.int .i64 ((q : Int) + 1 + 1))
      have s4 := s3.1.stored (j * 5 + 3) (.int .i64 ((q : Int) + 1 + 1 + 1))
      have hg4 := ((s1.2.trans s2.2).trans s3.2).trans s4.2
      have hxin : 0 < m → w1.ownsRow lo 100 5 (.slice x.a m x.d) m (nmV x.p.ns) ∧ ∀ b, (Value.slice x.a m x.d).ownBlock = some b → b < hi := fun hp => by
        rw [HMM.out]; exact hO1.inner x (List.mem_of_getElem? (markedP_at (k := k) HXX.out)) (by rw [← HMM.out]; exact hp)
      have hin4 : 0 < m → (((((w1.setCell ⟨g, j * 5, none⟩ (.string (markB q))).setCell ⟨g, j * 5 + 1, none⟩ (.int .i64 ((q : Int) + 1))).setCell ⟨g, j * 5 + 2, none⟩ (.int .i64 ((q : Int) + 1 + 1))).setCell ⟨g, j * 5 + 3, none⟩ (.int .i64 ((q : Int) + 1 + 1 + 1)))).ownsRow lo 100 5 (.slice x.a m x.d) m (nmV x.p.ns) := fun hp =>
        World.ownsRow.kept (hxin hp).1 hg4 (rows_apart11 (by decide) (hxin hp).1 hown1)
      have CM := Lib.hid (uMarkQ lo x.a m x.d (q + 4) x.p.ns _ (by omega) hq4 hxm hin4)
      have hq4i : ((q + 4 : Nat) : Int) = (q : Int) + 1 + 1 + 1 + 1 := by omega
      rw [hq4i] at CM
      have HO1 := Lib.hid hO1
      have HS4 := Lib.hid s4.1
      have HG4 := Lib.hid hg4
      have HXIN := Lib.hid hxin
      have HB1 := Lib.hid hb1
      clear hO1 hown1 hl1 a0 a1 a2 a3 a4 s1 s2 s3 s4 hg4 hxin hin4 hb1 hq4i
      go_wp2_with fail
      refine CM.out.mono ?_
      rintro e w2 ⟨rfl, hmk, r, hr, hgr⟩
      have hin2 := fun hp => hmk lo (nmV x.p.ns) (fun hp => World.ownsRow.kept (HXIN.out hp).1 HG4.out (rows_apart11 (by decide) (HXIN.out hp).1 HO1.out.row)) hp
      have hrg : ∀ b, r = some b → 0 < m ∧ b ≠ g := fun b hb => by
        obtain ⟨h1, h2⟩ := hr b hb
        refine ⟨h1, fun e => ?_⟩
        subst e
        rcases rows_apart11 (by decide) (HXIN.out h1).1 HO1.out.row with h3 | h3
        · rw [h3] at h2; cases h2
        · exact h3 h2
      have hrow2 : w2.ownsRow lo 29 5 (.slice (some ⟨g, 0, none⟩) n c) n (plV (markedP k (j + 1) es)) := by
        have h1 : (((((plV (markedP k j es)).set (j * 5) (.string (markB q))).set (j * 5 + 1) (.int .i64 ((q : Int) + 1))).set (j * 5 + 2) (.int .i64 ((q : Int) + 1 + 1))).set (j * 5 + 3) (.int .i64 ((q : Int) + 1 + 1 + 1))) = plV (markedP k (j + 1) es) := by
          have h2 := plV_set5 (markedP k j es) j (markP q x) (by rw [markedP_len _ _ _ (by have := HX.out; omega), HX.out]; exact hlt)
          rw [show q = k + wideL (es.take j) from HQ.out, markedP_step HXX.out, ← show q = k + wideL (es.take j) from HQ.out] at h2
          rw [← h2]
          unfold markP
          dsimp only
          rw [marksN_len]
          have h3 := (plV_at _ j x (markedP_at (k := k) HXX.out)).2.2.2.2
          symm
          apply set_self11
          rw [List.getElem?_set_ne (by omega), List.getElem?_set_ne (by omega), List.getElem?_set_ne (by omega), List.getElem?_set_ne (by omega)]
          exact h3
        rw [← h1]
        exact World.ownsRow.kept HS4.out hgr (by
          rcases hr' : r with _ | b
          · exact .inr (by intro e; cases e)
          · exact .inr (fun e => (hrg b hr').2 (by injection e with e; exact e.symm)))
      have HO2 : Hid (OwnP w2 lo hi (some ⟨g, 0, none⟩) n c (markedP k (j + 1) es)) := Lib.hid (by
        rw [← markedP_step HXX.out]
        have hq' : k + wideL (es.take j) = q := HQ.out.symm
        rw [hq']
        refine HO1.out.remark (markedP_at (k := k) HXX.out) rfl rfl (markP_len q x) ?_ ?_ ?_
        · rw [← hq', markedP_step HXX.out]; exact hrow2
        · intro hp
          rw [markP_len] at hp ⊢
          rw [← HMM.out] at hp ⊢
          have := hin2 hp
          unfold markP
          rw [HMM.out] at this ⊢
          exact this
        · intro b hb hbg hbe
          have hs4 := HG4.out.size
          rw [hgr.block b (by omega) (by
            intro e
            have h1 := hr b e.symm
            rw [← HMM.out] at hbe
            exact hbe h1.1 h1.2)]
          exact HG4.out.block b hb (by intro e; injection e with e; exact hbg e))
      have HG2 : Hid (FrameI lo hi w w2) := Lib.hid ((((HG.out.trans (FrameI.of_below HB1.out))).trans (FrameI.of_grown HG4.out (fun x hx => by cases hx; exact HLO.out))).trans (FrameI.of_grown hgr (fun b hb => by
        have h1 := hr b hb
        exact ⟨((HXIN.out h1.1).1.lt b h1.2).1, (HXIN.out h1.1).2 b h1.2⟩)))
      have HQ2 : Hid (q + wideP x = k + wideL (es.take (j + 1))) := Lib.hid (by rw [wideL_step HXX.out]; have := HQ.out; omega)
      have hqq := Lib.hid (show ((q : Int) + (4 + 5 * (m : Int))) = ((q + wideP x : Nat) : Int) by rw [hwx]; omega)
      have hq2 : 1 ≤ q + wideP x := by omega
      clear hin2 hrow2 hrg hmk hr hgr
      go_wp2_with fail
      go_roundw
      case rel => exact ⟨j + 1, q + wideP x, by omega, by go_num, by first | (rw [← hqq.out]; done) | (rw [hqq.out]; done) | (rw [← hqq.out]; go_num), hq2, HQ2, HO2, HG2⟩
      case measure => simp [intOf]; omega
    · obtain rfl : j = n := by omega
      have HF : Hid (OwnP wr lo hi (some ⟨g, 0, none⟩) j c (marksP k es) ∧ q = k + wideL es) := Lib.hid (by
        have h1 := HR.out
        have h2 := HQ.out
        have h3 := HX.out
        rw [← h3, markedP_all] at h1
        rw [List.take_of_length_le (by omega)] at h2
        rw [h3] at h1
        exact ⟨h1, h2⟩)
      go_wp2_with fail
      go_ret
      exact ⟨ret_int (by have := HF.out.2; omega), HF.out.1, HG.out⟩
end
section
set_option linter.unusedVariables false
open Go.RowKit

end
section
set_option linter.unusedVariables false
open Go.RowKit

theorem own_pl2 {w : World} {lo hi n c : Nat} {A : Option Addr} {es : List PE} {ps : List Pl} (h : OwnP w lo hi A n c es) (he : plsOf es = ps) : PlAt w w.heap.size A n ps := he ▸ own_pl h
/-- A row of places of one's own and a code. -/
def OutPl (zs : List Pl) (code : Int) (w : World) (e : Ending) (w' : World) : Prop :=
  ∃ A n c es, e = .returned (.tuple #[.slice A n c, .int .i64 code]) ∧ plsOf es = zs ∧ OwnP w' w.heap.size w'.heap.size A n c es ∧ Below w.heap.size w w'
theorem reg_wide {ps : List Pl} (h : regB ps = true) : ∀ es, plsOf es = ps → wideL es ≤ 1048576 := by
  intro es he
  have hl : es.length ≤ 10 := by have := (reg_of h).1; rw [← he, plsOf_len] at this; exact this
  have hm : ∀ e ∈ es, wideP e ≤ 64 := fun e hm => by
    have h1 := (pl_parts (reg_mem h (p := e.p) (by rw [← he]; exact List.mem_map_of_mem hm))).2.2.2.2.1
    have h2 := (names_of h1).1
    unfold wideP; omega
  have key : ∀ (l : List PE), (∀ e ∈ l, wideP e ≤ 64) → wideL l ≤ 64 * l.length := by
    intro l
    induction l with
    | nil => intro _; simp [wideL]
    | cons x l ih =>
      intro hx
      have h1 : wideL (x :: l) = wideP x + wideL l := by simp [wideL]
      have h2 := hx x (by simp)
      have h3 := ih (fun e he => hx e (List.mem_cons_of_mem _ he))
      rw [h1, List.length_cons]; omega
  have := key es hm
  omega
theorem nil_wide : ∀ es, plsOf es = [] → wideL es ≤ 1048576 := by
  intro es he
  obtain rfl : es = [] := by unfold plsOf at he; simpa using he
  simp [wideL]
end
section
set_option linter.unusedVariables false
open Go.RowKit Go.Lib

def insP (ps : List Pl) (p : Pl) : List Pl := ps.take (atP ps p.c) ++ [p] ++ ps.drop (atP ps p.c)
noncomputable def adC (ps : List Pl) (p : Pl) : Int := if regB ps && plB p then (if thereB ps p.c || decide (ps.length = 10) then 5 else 0) else 1
noncomputable def adZ (ps : List Pl) (p : Pl) : List Pl := if adC ps p = 0 then insP ps p else []
theorem adZ_ok {ps : List Pl} {p : Pl} (h : adC ps p = 0) : adZ ps p = insP ps p := by unfold adZ; rw [if_pos h]
theorem adZ_no {ps : List Pl} {p : Pl} (h : adC ps p ≠ 0) : adZ ps p = [] := by unfold adZ; rw [if_neg h]
theorem ad_cases (ps : List Pl) (p : Pl) : (adC ps p = 1 ∧ regB ps = false) ∨ (adC ps p = 1 ∧ regB ps = true ∧ plB p = false) ∨ (adC ps p = 5 ∧ regB ps = true ∧ plB p = true ∧ thereB ps p.c = true) ∨ (adC ps p = 5 ∧ regB ps = true ∧ plB p = true ∧ thereB ps p.c = false ∧ ps.length = 10) ∨ (adC ps p = 0 ∧ regB ps = true ∧ plB p = true ∧ thereB ps p.c = false ∧ ps.length ≠ 10) := by
  unfold adC
  cases h1 : regB ps
  · exact .inl ⟨rfl, rfl⟩
  cases h2 : plB p
  · exact .inr (.inl ⟨rfl, rfl, rfl⟩)
  cases h3 : thereB ps p.c
  · by_cases h4 : ps.length = 10
    · exact .inr (.inr (.inr (.inl ⟨by simp [h4], rfl, rfl, rfl, h4⟩)))
    · exact .inr (.inr (.inr (.inr ⟨by simp [h4], rfl, rfl, rfl, h4⟩)))
  · exact .inr (.inr (.inl ⟨rfl, rfl, rfl, rfl⟩))
theorem insP_len (ps : List Pl) (p : Pl) : (insP ps p).length = ps.length + 1 := by
  have := atP_le ps p.c
  unfold insP; simp; omega
theorem insP_at (ps : List Pl) (p : Pl) (j : Nat) : (insP ps p)[j]? = if j < atP ps p.c then ps[j]? else if j = atP ps p.c then some p else ps[j - 1]? := by
  have hle := atP_le ps p.c
  have hl : (ps.take (atP ps p.c)).length = atP ps p.c := by rw [List.length_take]; omega
  unfold insP
  rw [List.append_assoc]
  by_cases h1 : j < atP ps p.c
  · rw [if_pos h1, List.getElem?_append_left (by omega), List.getElem?_take, if_pos h1]
  · rw [if_neg h1, List.getElem?_append_right (by omega), hl]
    by_cases h2 : j = atP ps p.c
    · rw [if_pos h2, h2, Nat.sub_self]; rfl
    · rw [if_neg h2]
      obtain ⟨d, hd⟩ : ∃ d, j - atP ps p.c = d + 1 := ⟨j - atP ps p.c - 1, by omega⟩
      rw [hd, List.singleton_append, List.getElem?_cons_succ, List.getElem?_drop]
      congr 1; omega
/-- A further place at its place makes a register where there is none with its code and there is room. -/
theorem insP_reg {ps : List Pl} {p : Pl} (h : regB ps = true) (hp : plB p = true) : regB (insP ps p) = true ↔ (thereB ps p.c = false ∧ ps.length ≠ 10) := by
  have hg := reg_of h
  have hle := atP_le ps p.c
  constructor
  · intro hi
    have hi2 := reg_of hi
    rw [insP_len] at hi2
    refine ⟨?_, by omega⟩
    cases ht : thereB ps p.c
    · rfl
    · exfalso
      obtain ⟨q, hq, hc⟩ := there_get ht
      have h1 : (insP ps p)[atP ps p.c]? = some p := by rw [insP_at, if_neg (by omega), if_pos rfl]
      have h2 : (insP ps p)[atP ps p.c + 1]? = some q := by rw [insP_at, if_neg (by omega), if_neg (by omega)]; exact hq
      have h3 := goodP_pair hi2.2 (Nat.lt_succ_self _) h1 h2
      rw [hc] at h3
      exact ltT_irr _ h3
  · rintro ⟨ht, hl⟩
    refine reg_yes (by rw [insP_len]; omega) (fun k x hx => ?_)
    rw [insP_at] at hx
    by_cases h1 : k < atP ps p.c
    · rw [if_pos h1] at hx
      refine ⟨(hg.2 k x hx).1, fun q h0 hq => ?_⟩
      rw [insP_at, if_pos (by omega)] at hq
      exact (hg.2 k x hx).2 q h0 hq
    · rw [if_neg h1] at hx
      by_cases h2 : k = atP ps p.c
      · rw [if_pos h2] at hx
        obtain rfl := Option.some.inj hx
        refine ⟨hp, fun q h0 hq => ?_⟩
        rw [insP_at, if_pos (by omega)] at hq
        exact atP_lt (by omega) hq
      · rw [if_neg h2] at hx
        refine ⟨(hg.2 (k - 1) x hx).1, fun q h0 hq => ?_⟩
        rw [insP_at, if_neg (by omega)] at hq
        by_cases h3 : k - 1 = atP ps p.c
        · rw [if_pos h3] at hq
          obtain rfl := Option.some.inj hq
          rw [h3] at hx
          have h4 := atP_stop hx
          rw [there_some hx] at ht
          have h5 := of_decide_eq_false ht
          rw [ltB_not] at h4
          rw [ltB_iff]
          exact ltT_tri _ _ h4 h5
        · rw [if_neg h3] at hq
          exact (hg.2 (k - 1) x hx).2 q (by omega) hq
theorem insP_pls (es : List PE) (q : PE) (k : Nat) : plsOf (es.take k ++ [q] ++ es.drop k) = (plsOf es).take k ++ [q.p] ++ (plsOf es).drop k := by simp [plsOf]
theorem ad_reg {ps : List Pl} {p : Pl} (h : adC ps p = 0) : regB (insP ps p) = true := by
  rcases ad_cases ps p with ⟨h1, _⟩ | ⟨h1, _⟩ | ⟨h1, _⟩ | ⟨h1, _⟩ | ⟨_, e1, e2, e3, e4⟩
  · rw [h1] at h; cases h
  · rw [h1] at h; cases h
  · rw [h1] at h; cases h
  · rw [h1] at h; cases h
  · exact (insP_reg e1 e2).2 ⟨e3, e4⟩
theorem adZ_wide (ps : List Pl) (p : Pl) : ∀ es, plsOf es = adZ ps p → wideL es ≤ 1048576 := by
  by_cases h : adC ps p = 0
  · rw [adZ_ok h]; exact reg_wide (ad_reg h)
  · rw [adZ_no h]; exact nil_wide
theorem adZ_len (ps : List Pl) (p : Pl) : (adZ ps p).length ≤ 1048576 := by
  by_cases h : adC ps p = 0
  · rw [adZ_ok h]; have := (reg_of (ad_reg h)).1; omega
  · rw [adZ_no h]; simp
theorem adZ_sz {ps : List Pl} {p : Pl} (h1 : Sz11 ps) (h2 : p.c.size ≤ 1048576 ∧ p.ns.length ≤ 1048576 ∧ ∀ e ∈ p.ns, e.t.size ≤ 1048576 ∧ e.l.size ≤ 1048576) : Sz11 (adZ ps p) := by
  by_cases h : adC ps p = 0
  · rw [adZ_ok h]
    intro x hx
    unfold insP at hx
    rw [List.mem_append, List.mem_append, List.mem_singleton] at hx
    rcases hx with (hx | rfl) | hx
    · exact h1 x (List.mem_of_mem_take hx)
    · exact h2
    · exact h1 x (List.mem_of_mem_drop hx)
  · rw [adZ_no h]; intro x hx; cases hx

/-- A row as it lies, read. -/
theorem pl_of_row {w : World} {lo n c : Nat} {A : Option Addr} {es : List PE} (h : w.ownsRow lo 29 5 (.slice A n c) n (plV es)) (hn : ∀ e ∈ es, NmAt w w.heap.size e.a e.p.ns.length e.p.ns ∧ e.p.ns.length ≤ e.d) : PlAt w w.heap.size A n (plsOf es) := by
  have hl : es.length = n := by have := h.1; rw [plV_len] at this; omega
  refine ⟨by rw [plsOf_len]; exact hl.symm, fun hp => ?_⟩
  obtain ⟨g, cap, hv, _, hlt⟩ := World.ownsRow.form h hp
  have hA : A = some ⟨g, 0, none⟩ := by injection hv
  subst hA
  refine ⟨g, 0, rfl, hlt, fun k p hk => ?_⟩
  obtain ⟨e, he, rfl⟩ := plsOf_get hk
  have hkl := (List.getElem?_eq_some_iff.1 he).1
  have hc := plV_at es k e he
  obtain ⟨i1, i2⟩ := hn e (List.mem_of_getElem? he)
  rw [Nat.zero_add]
  exact ⟨e.a, e.d, (World.ownsRow.cellAt h (k * 5) (by omega)).trans hc.1, (World.ownsRow.cellAt h (k * 5 + 1) (by omega)).trans hc.2.1, (World.ownsRow.cellAt h (k * 5 + 2) (by omega)).trans hc.2.2.1, (World.ownsRow.cellAt h (k * 5 + 3) (by omega)).trans hc.2.2.2.1, (World.ownsRow.cellAt h (k * 5 + 4) (by omega)).trans hc.2.2.2.2, i1, i2⟩
/-- What is kept of the box of the place through a region that draws its order. -/
def BxQ (A0 : World) (b : Nat) (v0 v1 v2 v3 v4 : Value) (W : World) : Prop :=
  W.cell? ⟨b, 0, none⟩ = some v0 ∧ W.cell? ⟨b, 1, none⟩ = some v1 ∧ W.cell? ⟨b, 2, none⟩ = some v2 ∧ W.cell? ⟨b, 3, none⟩ = some v3 ∧ W.cell? ⟨b, 4, none⟩ = some v4 ∧ Below A0.heap.size A0 W ∧ b < A0.heap.size
theorem BxQ.keep {A0 W W' : World} {b : Nat} {v0 v1 v2 v3 v4 : Value} (h : BxQ A0 b v0 v1 v2 v3 v4 W) (hb : Below W.heap.size W W') : BxQ A0 b v0 v1 v2 v3 v4 W' := by
  obtain ⟨h0, h1, h2, h3, h4, h5, h6⟩ := h
  have hl : b < W.heap.size := Nat.lt_of_lt_of_le h6 h5.size
  exact ⟨(hb.cell (p := ⟨b, 0, none⟩) hl).trans h0, (hb.cell (p := ⟨b, 1, none⟩) hl).trans h1, (hb.cell (p := ⟨b, 2, none⟩) hl).trans h2, (hb.cell (p := ⟨b, 3, none⟩) hl).trans h3, (hb.cell (p := ⟨b, 4, none⟩) hl).trans h4, bstep9 h5 h5.size hb, h6⟩
theorem BxQ.get {A0 W : World} {b : Nat} {v0 v1 v2 v3 v4 : Value} (h : BxQ A0 b v0 v1 v2 v3 v4 W) : Below A0.heap.size A0 W := h.2.2.2.2.2.1
theorem BxQ.start {A0 : World} {b : Nat} {v0 v1 v2 v3 v4 : Value} (h : Bx A0 b [v0, v1, v2, v3, v4]) : BxQ A0 b v0 v1 v2 v3 v4 A0.drew := by
  obtain ⟨h0, h1, h2, h3, h4, _⟩ := h.five
  exact ⟨h0, h1, h2, h3, h4, (Below.refl _ _).drew, h.1⟩
end
section
set_option linter.unusedVariables false
open Go.RowKit Go.Lib

set_option maxHeartbeats 2000000 in
set_option maxRecDepth 100000 in
theorem cOwnPl (A : Option Addr) (n cap : Nat) (ps : List Pl) (w : World) (hbig : n ≤ 1048576) (hz : Sz11 ps) (h : PlAt w w.heap.size A n ps) :
    Calls Tryz.prog 59 #[.slice A n cap] w (CopyOut ps n w) := by
  obtain ⟨i0, hi0, hz0, hz1, hz2⟩ := info_parts info_pl
  obtain ⟨j0, hj0, hy0, hy1, hy2⟩ := info_parts info_nm
  have H := Lib.hid h
  have HN := Lib.hid h.1
  have HS := Lib.hid hz
  have HO : Hid (OwnP (w.alloc (.cells #[] 29)) w.heap.size (w.alloc (.cells #[] 29)).heap.size (some ⟨w.heap.size, 0, none⟩) 0 0 []) := Lib.hid ⟨World.ownsRow_lit (e := 29) (base := w.heap.size) (size := 5) w #[] 0 (Nat.le_refl _) (by decide) rfl, fun k hk => by (obtain rfl : w.heap.size = k := by simpa [Value.ownBlock] using hk); simp, fun e he => (by cases he), fun i j x y _ hi => (by simp at hi)⟩
  have hb0 : Below w.heap.size w (w.alloc (.cells #[] 29)) := below_alloc11 _ _
  clear h hz
  go_enter Tryz.func59, Tryz.ntmps59
  go_wp2_with fail
  go_loopw [3, 4] (fun v i wr => ∃ (k : Nat) (g c : Nat) (es : List PE), k ≤ n ∧ v = .slice (some ⟨g, 0, none⟩) k c ∧ i = .int .i64 k ∧ Hid (es.length = k ∧ plsOf es = ps.take k) ∧ Hid (OwnP wr w.heap.size wr.heap.size (some ⟨g, 0, none⟩) k c es) ∧ Below w.heap.size w wr) (fun v i _ => n - (RowKit.intOf i).toNat)
  case atStart => exact ⟨0, _, 0, [], Nat.zero_le _, rfl, rfl, Lib.hid ⟨rfl, by simp [plsOf]⟩, HO, hb0⟩
  case round =>
    clear HO hb0
    obtain ⟨k, g, c, es, hk, rfl, rfl, HE, HO, hbw⟩ := hrel
    by_cases hlt : k < n
    · obtain ⟨p, hp⟩ : ∃ p, ps[k]? = some p := ⟨ps[k]'(by have := HN.out; omega), List.getElem?_eq_getElem _⟩
      obtain ⟨b, o, rfl, hbl, A1, d1, c0, c1, c2, c3, c4, hnm, hd1⟩ := (H.out.below hbw (Nat.le_refl _)).row hp
      have hsz := HS.out p (List.mem_of_getElem? hp)
      have HP := Lib.hid hp
      have HNM := Lib.hid (hnm.more hbw.size)
      have u1 : (0 : Int) ≤ (k : Int) := Int.natCast_nonneg _
      have u2 : (k : Int) < (n : Int) := by omega
      clear hp hnm
      have hA1 : A1 = none → p.ns.length = 0 := fun e => by
        rcases Nat.eq_zero_or_pos p.ns.length with h0 | hp
        · exact h0
        · obtain ⟨b1, o1, e1, _⟩ := HNM.out.2 hp; rw [e] at e1; cases e1
      obtain ⟨V0, hV0⟩ : ∃ V0 : World, V0 = wr.alloc (.cells #[.string p.c, .int .i64 p.k, .int .i64 p.f, .int .i64 p.u, .slice A1 p.ns.length d1] 29) := ⟨_, rfl⟩
      have hs0 : V0.heap.size = wr.heap.size + 1 := by rw [hV0]; simp
      have hbV : Below wr.heap.size wr V0 := by rw [hV0]; exact below_alloc11 _ _
      have HX0 : Hid (Bx V0 wr.heap.size [.string p.c, .int .i64 p.k, .int .i64 p.f, .int .i64 p.u, .slice A1 p.ns.length d1]) := Lib.hid (by rw [hV0]; exact Bx.new wr _ _)
      have hbV1 := hbV.alloc (by omega) (.cells #[] 100)
      have HC : Hid (∀ ad, A1 = some ad → ∀ j u, (nmV p.ns)[j]? = some u → (V0.alloc (.cells #[] 100)).cell? (ad.add j) = some u) := Lib.hid (fun ad e j u hu => by
        have h1 := HNM.out.grow hbV1
        rw [e] at h1
        exact nm_cellsA h1 j u hu)
      have HL : Hid ((nmV p.ns).length = p.ns.length * 5) := Lib.hid (by rw [nmV_len])
      have HOW : Hid ((V0.alloc (.cells #[] 100)).ownsRow V0.heap.size 100 5 (.slice (some ⟨V0.heap.size, 0, none⟩) 0 0) 0 (#[] : Array Value).toList) := Lib.hid (World.ownsRow_lit (e := 100) (base := V0.heap.size) (size := 5) V0 #[] 0 (Nat.le_refl _) (by decide) rfl)
      have HVE := Lib.hid hV0
      have HS0 := Lib.hid hs0
      have HBV := Lib.hid hbV
      have HBV1 := Lib.hid hbV1
      have z1 : 0 + p.ns.length ≤ maxLen := by unfold maxLen; omega
      have z2 : (0 + p.ns.length) * 56 ≤ 140737488355328 := by omega
      have HHD := Lib.hid hd1
      clear hV0 hbV hbV1 hs0
      go_wp2_with (at_builtin; rw [← HVE.out, ← HS0.out]; (refine wpList_append_x rfl _ _ 27 rfl V0.heap.size 100 j0 _ 5 56 Tryz.underlying27 hj0 hy0 hy1 hy2 rfl (by decide) _ 0 _ rfl HOW.out A1 p.ns.length d1 (nmV p.ns) rfl hA1 HL.out HC.out (nm_one11 _) z1 z2 (by simp) ?_))
      intro v' w2 hown2 hgrow2 _
      have hown2 : w2.ownsRow V0.heap.size 100 5 v' p.ns.length (nmV p.ns) := by simpa using hown2
      obtain ⟨A2, d2, rfl, hd2⟩ := row_form5 hown2
      have hX2 := (HX0.out.alloc (.cells #[] 100)).grown hgrow2 (show wr.heap.size ≠ V0.heap.size by have := HS0.out; omega)
      have hb2 : Below wr.heap.size wr w2 := HBV1.out.grown hgrow2 HBV1.out.size (fun j hj => by (obtain rfl : V0.heap.size = j := by simpa [Value.ownBlock] using hj); rw [HS0.out]; omega)
      have hX3 := hX2.set 4 (.slice A2 p.ns.length d2) (by simp)
      have hb3 := hb2.setCell (p := ⟨wr.heap.size, 4, none⟩) (Nat.le_refl _) (.slice A2 p.ns.length d2)
      obtain ⟨V3, hV3⟩ : ∃ V3 : World, V3 = w2.setCell ⟨wr.heap.size, 4, none⟩ (.slice A2 p.ns.length d2) := ⟨_, rfl⟩
      have hs3 : V3.heap.size = w2.heap.size := by rw [hV3]; simp
      have hnm3 : V3.ownsRow V0.heap.size 100 5 (.slice A2 p.ns.length d2) p.ns.length (nmV p.ns) := by
        rw [hV3]
        exact own_block11 hown2 (fun j hj => Below.heap_setCell _ _ _ _ (by have := (hown2.lt j hj).1; rw [HS0.out] at this; show j ≠ wr.heap.size; omega))
      obtain ⟨_, _, _, _, x4, _, _, _, _, f4⟩ := hX2.five
      rw [← hV3] at hX3 hb3
      obtain ⟨y0, y1, y2, y3, y4, _⟩ := hX3.five
      have hb4 := hb3.alloc hb3.size (.cells #[.string p.c, .int .i64 p.k, .int .i64 p.f, .int .i64 p.u, .slice A2 p.ns.length d2] 29)
      have ho4 := HO.out.below hb4
      have hnm4 := (World.ownsRow.alloc hnm3 (.cells #[.string p.c, .int .i64 p.k, .int .i64 p.f, .int .i64 p.u, .slice A2 p.ns.length d2] 29)).mono (base' := w.heap.size) (by rw [HS0.out]; have := hbw.size; omega)
      have HNEW : Hid (∀ ad, some (⟨V3.heap.size, 0, none⟩ : Addr) = some ad → ∀ j u, (encE11 ⟨p, A2, d2⟩)[j]? = some u → (V3.alloc (.cells #[.string p.c, .int .i64 p.k, .int .i64 p.f, .int .i64 p.u, .slice A2 p.ns.length d2] 29)).cell? (ad.add j) = some u) := Lib.hid (fun ad e j u hu => by
        obtain rfl := Option.some.inj e
        rw [add_plain', Nat.zero_add]
        exact ((Bx.new V3 #[.string p.c, .int .i64 p.k, .int .i64 p.f, .int .i64 p.u, .slice A2 p.ns.length d2] 29).2 j u hu).1)
      have HO4 := Lib.hid ho4
      have HNM4 := Lib.hid hnm4
      have HB4 := Lib.hid hb4
      have HV3 := Lib.hid hV3
      have HS3 := Lib.hid hs3
      have HNW : Hid (∀ x ∈ es, 0 < x.p.ns.length → 0 < p.ns.length → x.a ≠ A2) := Lib.hid (fun x hx hp hq => HO.out.newer (hown2.mono (by have := HS0.out; omega)) hq x hx hp)
      have HON : Hid (∀ u ∈ encE11 ⟨p, A2, d2⟩, u.oneCell' = true) := Lib.hid (fun u hu => pl_one11 [⟨p, A2, d2⟩] u (by rw [plV_one]; exact hu))
      have z3 : k + 1 ≤ maxLen := by unfold maxLen; omega
      have z4 : (k + 1) * 64 ≤ 140737488355328 := by omega
      have hba : w.heap.size ≤ (V3.alloc (.cells #[.string p.c, .int .i64 p.k, .int .i64 p.f, .int .i64 p.u, .slice A2 p.ns.length d2] 29)).heap.size := Nat.le_trans hbw.size hb4.size
      clear hown2 hgrow2 hX2 hb2 hX3 hb3 hV3 hs3 hnm3 hb4 ho4 hnm4 HC HOW
      go_wp2_with (at_builtin; rw [← HV3.out, ← HS3.out]; (refine wpList_append_x rfl _ _ 24 rfl w.heap.size 29 i0 _ 5 64 Tryz.underlying24 hi0 hz0 hz1 hz2 rfl (by decide) _ k (plV es) rfl HO4.out.row (some ⟨V3.heap.size, 0, none⟩) 1 1 (encE11 ⟨p, A2, d2⟩) rfl (fun e => by cases e) rfl HNEW.out HON.out z3 z4 hba ?_))
      intro v5 w5 hown5 hgrow5 _
      obtain ⟨g5, c5, rfl, hg5, hl5⟩ := World.ownsRow.form hown5 (by omega)
      have hrow5 : w5.ownsRow w.heap.size 29 5 (.slice (some ⟨g5, 0, none⟩) (k + 1) c5) (k + 1) (plV (es ++ [⟨p, A2, d2⟩])) := by rw [plV_app, plV_one]; exact hown5
      have hfin := HO4.out.snoc (e := ⟨p, A2, d2⟩) (hi' := w5.heap.size) (fun _ => ⟨HNM4.out, fun b hb => Nat.lt_of_lt_of_le (HNM4.out.lt b hb).2 hgrow5.size⟩) HNW.out hrow5 (fun j hj => (hrow5.lt j hj).2) (Nat.le_trans HB4.out.size hgrow5.size) hgrow5
      have HF := Lib.hid hfin
      have HE5 : Hid ((es ++ [(⟨p, A2, d2⟩ : PE)]).length = k + 1 ∧ plsOf (es ++ [(⟨p, A2, d2⟩ : PE)]) = ps.take (k + 1)) := Lib.hid ⟨by simp [HE.out.1], by rw [plsOf_app, HE.out.2, take_snocP HP.out]; rfl⟩
      have hbw5 : Below w.heap.size w w5 := (bstep9 hbw hbw.size HB4.out).grown hgrow5 hba (fun j hj => (HO4.out.row.lt j hj).1)
      clear hown5 hgrow5 hrow5 hfin
      go_wp2_with fail
      go_roundw
      case rel => exact ⟨k + 1, g5, c5, _, by omega, rfl, by go_num, HE5, HF, hbw5⟩
      case measure => simp [RowKit.intOf]; omega
    · obtain rfl : k = n := by omega
      have HF : Hid (plsOf es = ps ∧ OwnP wr w.heap.size wr.heap.size (some ⟨g, 0, none⟩) k c es) := Lib.hid (by
        have h2 := HE.out.2
        rw [List.take_of_length_le (by have := HN.out; omega)] at h2
        exact ⟨h2, HO.out⟩)
      go_wp2_with fail
      go_ret
      exact ⟨_, c, es, rfl, HF.out.1, HF.out.2, hbw⟩
end
end Go.Proofs.YtglmibmjbignbaaGreatDoor
