/-
  The laws' helpers on places: markPlaceS and heldPlaceS on rows of one's own, markPlace on one by value.
-/
import Derived.Test.YtglmibmjbignbaaGreatDoorMz12
import Derived.Test.YtglmibmjbignbaaGreatDoorNmMark
namespace Go.Proofs.YtglmibmjbignbaaGreatDoor
set_option linter.unusedVariables false
open Go.RowKit

theorem set_self11 {α : Type} : ∀ {l : List α} {i : Nat} {v : α}, l[i]? = some v → l.set i v = l
  | [], i, v, h => by simp at h
  | x :: l, 0, v, h => by obtain rfl : x = v := by simpa using h
                          rfl
  | x :: l, i + 1, v, h => by rw [List.set_cons_succ, set_self11 (l := l) (by simpa using h)]
def wideP (e : PE) : Nat := 4 + 5 * e.p.ns.length
def wideL (es : List PE) : Nat := (es.map wideP).sum
def markP (k : Nat) (e : PE) : PE := ⟨⟨markB k, (k : Int) + 1, (k : Int) + 1 + 1, (k : Int) + 1 + 1 + 1, marksN (k + 4) e.p.ns.length⟩, e.a, e.d⟩
def marksP : Nat → List PE → List PE
  | _, [] => []
  | k, e :: es => markP k e :: marksP (k + wideP e) es
theorem marksP_len : ∀ (es : List PE) (k : Nat), (marksP k es).length = es.length
  | [], k => rfl
  | e :: es, k => by unfold marksP; simp [marksP_len es]
theorem marksP_app : ∀ (xs ys : List PE) (k : Nat), marksP k (xs ++ ys) = marksP k xs ++ marksP (k + wideL xs) ys
  | [], ys, k => by simp [marksP, wideL]
  | x :: xs, ys, k => by
    have : wideL (x :: xs) = wideP x + wideL xs := by simp [wideL]
    show markP k x :: marksP (k + wideP x) (xs ++ ys) = (markP k x :: marksP (k + wideP x) xs) ++ _
    rw [marksP_app xs ys, this, List.cons_append, Nat.add_assoc]
theorem wideL_step {es : List PE} {j : Nat} {e : PE} (h : es[j]? = some e) : wideL (es.take (j + 1)) = wideL (es.take j) + wideP e := by
  rw [take_snocP h]; simp [wideL]
theorem marksP_step {es : List PE} {j k : Nat} {e : PE} (h : es[j]? = some e) : marksP k (es.take (j + 1)) = marksP k (es.take j) ++ [markP (k + wideL (es.take j)) e] := by
  rw [take_snocP h, marksP_app]; rfl
theorem wideL_le {es : List PE} {j : Nat} (h : j ≤ es.length) : wideL (es.take j) ≤ wideL es := by
  have : wideL es = wideL (es.take j) + wideL (es.drop j) := by
    conv => lhs; rw [← List.take_append_drop j es]
    unfold wideL; rw [List.map_append, List.sum_append]
  omega
theorem marksP_at : ∀ {es : List PE} {j k : Nat} {e : PE}, es[j]? = some e → (marksP k es)[j]? = some (markP (k + wideL (es.take j)) e)
  | [], j, k, e, h => by simp at h
  | x :: es, 0, k, e, h => by
    obtain rfl : x = e := by simpa using h
    unfold marksP; simp [wideL]
  | x :: es, j + 1, k, e, h => by
    have ih := marksP_at (es := es) (j := j) (k := k + wideP x) (by simpa using h)
    unfold marksP
    rw [List.getElem?_cons_succ, ih, List.take_succ_cons]
    have : wideL (x :: es.take j) = wideP x + wideL (es.take j) := by simp [wideL]
    rw [this, Nat.add_assoc]
theorem markP_len (k : Nat) (e : PE) : (markP k e).p.ns.length = e.p.ns.length := by unfold markP; exact marksN_len _ _
theorem wide_tot : ∀ (es : List PE), wideL es ≤ 5 * (es.length + totPs (plsOf es))
  | [] => by simp [wideL]
  | e :: es => by
    have ih := wide_tot es
    have h1 : wideL (e :: es) = wideP e + wideL es := by simp [wideL]
    have h2 : totPs (plsOf (e :: es)) = totP e.p + totPs (plsOf es) := by simp [totPs, plsOf]
    rw [h1, h2, List.length_cons]
    unfold wideP totP
    omega
/-- The list, its first j elements marked. -/
def markedP (k j : Nat) (es : List PE) : List PE := marksP k (es.take j) ++ es.drop j
theorem markedP_step {es : List PE} {j k : Nat} {e : PE} (h : es[j]? = some e) : (markedP k j es).set j (markP (k + wideL (es.take j)) e) = markedP k (j + 1) es := by
  have hj := (List.getElem?_eq_some_iff.1 h).1
  have hx := (List.getElem?_eq_some_iff.1 h).2
  unfold markedP
  have hl : (marksP k (es.take j)).length = j := by rw [marksP_len, List.length_take]; omega
  rw [List.set_append_right _ _ (by omega), hl, Nat.sub_self, List.drop_eq_getElem_cons hj, hx, List.set_cons_zero, marksP_step h, List.append_assoc]
  rfl
theorem markedP_at {es : List PE} {j k : Nat} {e : PE} (h : es[j]? = some e) : (markedP k j es)[j]? = some e := by
  have hj := (List.getElem?_eq_some_iff.1 h).1
  have hl : (marksP k (es.take j)).length = j := by rw [marksP_len, List.length_take]; omega
  unfold markedP
  rw [List.getElem?_append_right (by omega), hl, Nat.sub_self, List.getElem?_drop]
  simpa using h
theorem markedP_len (es : List PE) (j k : Nat) (h : j ≤ es.length) : (markedP k j es).length = es.length := by
  unfold markedP; rw [List.length_append, marksP_len, List.length_take, List.length_drop]; omega
theorem markedP_all (es : List PE) (k : Nat) : markedP k es.length es = marksP k es := by unfold markedP; simp

/-- Marks in the names of one place. -/
def MarkedQ (A : Option Addr) (n d k : Nat) (w : World) (e : Ending) (w' : World) : Prop :=
  e = .returned (.int .i64 ((k + 5 * n : Nat) : Int)) ∧ (∀ lo xs, (0 < n → w.ownsRow lo 100 5 (.slice A n d) n xs) → 0 < n → w'.ownsRow lo 100 5 (.slice A n d) n (nmV (marksN k n))) ∧ ∃ r, (∀ g, r = some g → 0 < n ∧ (Value.slice A n d).ownBlock = some g) ∧ w.grownBy w' r
theorem uMarkQ (lo : Nat) (A : Option Addr) (n d k : Nat) (xs : List Nm) (w : World) (hk : 1 ≤ k) (hk2 : k ≤ 1073741824) (hn : n ≤ 1048576) (h : 0 < n → w.ownsRow lo 100 5 (.slice A n d) n (nmV xs)) :
    Calls Tryz.prog 112 #[.slice A n d, .int .i64 (k : Int)] w (MarkedQ A n d k w) := by
  rcases Nat.eq_zero_or_pos n with rfl | hp
  · refine (cMarkN_none A d k w).mono ?_
    rintro e w' ⟨rfl, rfl⟩
    exact ⟨rfl, fun lo xs h hp => absurd hp (by omega), none, fun g hg => (by cases hg), World.grownBy.refl _ _⟩
  · refine (uMarkN lo A n d k xs w hk hk2 hn (h hp)).mono ?_
    rintro e w' ⟨rfl, ho, hg⟩
    refine ⟨rfl, fun lo' xs' h' _ => own_any11 ho (fun b hb => ((h' hp).lt b hb).1), _, fun g hg' => ⟨hp, hg'⟩, hg⟩

def MarkedPl (lo hi : Nat) (A : Option Addr) (n c k : Nat) (es : List PE) (w : World) (e : Ending) (w' : World) : Prop :=
  e = .returned (.int .i64 ((k + wideL es : Nat) : Int)) ∧ OwnP w' lo hi A n c (marksP k es) ∧ FrameI lo hi w w'
theorem cMarkP_none (A : Option Addr) (c : Nat) (k : Int) (w : World) :
    Calls Tryz.prog 44 #[.slice A 0 c, .int .i64 k] w fun e w' => e = .returned (.int .i64 k) ∧ w = w' := by
  go_enter Tryz.func44, Tryz.ntmps44
  go_wp2
  refine wp_loop_rounds 1 ?_
  rw [rounds_succ]
  go_wp2
  go_ret
  exact ⟨rfl, rfl⟩
set_option maxHeartbeats 4000000 in
set_option maxRecDepth 100000 in
theorem uMarkPl (lo hi : Nat) (A : Option Addr) (n c k : Nat) (es : List PE) (w : World) (hk : 1 ≤ k) (hk2 : k + wideL es ≤ 1073741824) (hn : n ≤ 1048576) (hes : ∀ e ∈ es, e.p.ns.length ≤ 1048576) (h : OwnP w lo hi A n c es) :
    Calls Tryz.prog 44 #[.slice A n c, .int .i64 (k : Int)] w (MarkedPl lo hi A n c k es w) := by
  have hxl := h.len
  rcases Nat.eq_zero_or_pos n with rfl | hp
  · refine (cMarkP_none A c k w).mono ?_
    rintro e w' ⟨rfl, rfl⟩
    obtain rfl : es = [] := List.eq_nil_of_length_eq_zero hxl
    exact ⟨rfl, h, FrameI.refl _ _ _⟩
  obtain ⟨g, cc, hv, _, hgl⟩ := World.ownsRow.form h.row hp
  obtain ⟨rfl, rfl⟩ : A = some ⟨g, 0, none⟩ ∧ c = cc := by injection hv with h1 h2 h3; exact ⟨h1, h3⟩
  have hlo : lo ≤ g ∧ g < hi := ⟨(h.row.lt g rfl).1, h.top g rfl⟩
  have H := Lib.hid h
  have HX := Lib.hid hxl
  have HES := Lib.hid hes
  have HLO := Lib.hid hlo
  clear hv h hxl hes hlo
  go_enter Tryz.func44, Tryz.ntmps44
  go_wp2_with fail
  go_loopw [1, 5] (fun kk i wr => ∃ (j q : Nat), j ≤ n ∧ i = .int .i64 j ∧ kk = .int .i64 (q : Int) ∧ 1 ≤ q ∧ Hid (q = k + wideL (es.take j)) ∧ Hid (OwnP wr lo hi (some ⟨g, 0, none⟩) n c (markedP k j es)) ∧ Hid (FrameI lo hi w wr)) (fun _ i _ => n - (intOf i).toNat)
  case atStart => exact ⟨0, k, Nat.zero_le _, rfl, rfl, hk, Lib.hid (by simp [wideL]), by simpa [markedP, marksP] using H, Lib.hid (FrameI.refl _ _ _)⟩
  case round =>
    obtain ⟨j, q, hj, rfl, rfl, hq1, HQ, HR, HG⟩ := hrel
    by_cases hlt : j < n
    · obtain ⟨x, hx⟩ : ∃ x, es[j]? = some x := ⟨es[j]'(by have := HX.out; omega), List.getElem?_eq_getElem _⟩
      have hxm := HES.out x (List.mem_of_getElem? hx)
      have hqb : q + wideP x ≤ 1073741824 := by
        have h1 := wideL_step hx
        have h2 := wideL_le (es := es) (j := j + 1) (by have := HX.out; omega)
        have h3 := HQ.out
        omega
      have hwx : wideP x = 4 + 5 * x.p.ns.length := rfl
      obtain ⟨m, hm⟩ : ∃ m, m = x.p.ns.length := ⟨_, rfl⟩
      rw [← hm] at hwx hxm
      have hm0 := fun W => cMarkText q W (by omega) (by omega)
      have HM0 := Lib.hid hm0
      have HXX := Lib.hid hx
      have HMM := Lib.hid hm
      have u1 : (0 : Int) ≤ (j : Int) := Int.natCast_nonneg _
      have u2 : (j : Int) < (n : Int) := by omega
      have u3 : (0 : Int) ≤ (q : Int) := Int.natCast_nonneg _
      have u4 : (q : Int) + 4 + 5 * (m : Int) ≤ 1099511627776 := by omega
      have hq4 : q + 4 ≤ 1073741824 := by omega
      clear hm0 hx hm hqb
      go_wp2_with fail
      refine (HM0.out _).mono ?_
      rintro e w1 ⟨rfl, hb1⟩
      have hO1 := HR.out.below hb1
      have hown1 := hO1.row
      have hl1 := hown1.1
      obtain ⟨a0, a1, a2, a3, a4⟩ := plV_at _ j x (markedP_at (k := k) HXX.out)
      obtain ⟨v0, d0⟩ : ∃ v, w1.cell? ⟨g, j * 5, none⟩ = some v := ⟨_, (hown1.cellAt (j * 5) (by omega)).trans a0⟩
      obtain ⟨v1, d1⟩ : ∃ v, w1.cell? ⟨g, j * 5 + 1, none⟩ = some v := ⟨_, (hown1.cellAt (j * 5 + 1) (by omega)).trans a1⟩
      obtain ⟨v2, d2⟩ : ∃ v, w1.cell? ⟨g, j * 5 + 2, none⟩ = some v := ⟨_, (hown1.cellAt (j * 5 + 2) (by omega)).trans a2⟩
      obtain ⟨v3, d3⟩ : ∃ v, w1.cell? ⟨g, j * 5 + 3, none⟩ = some v := ⟨_, (hown1.cellAt (j * 5 + 3) (by omega)).trans a3⟩
      have d4 : w1.cell? ⟨g, j * 5 + 4, none⟩ = some (.slice x.a m x.d) := by rw [HMM.out]; exact (hown1.cellAt (j * 5 + 4) (by omega)).trans a4
      have f0 := hown1.frozenAt (j * 5)
      have f1 := hown1.frozenAt (j * 5 + 1)
      have f2 := hown1.frozenAt (j * 5 + 2)
      have f3 := hown1.frozenAt (j * 5 + 3)
      have s1 := hown1.stored (j * 5) (.string (markB q))
      have s2 := s1.1.stored (j * 5 + 1) (.int .i64 ((q : Int) + 1))
      have s3 := s2.1.stored (j * 5 + 2) (.int .i64 ((q : Int) + 1 + 1))
      have s4 := s3.1.stored (j * 5 + 3) (.int .i64 ((q : Int) + 1 + 1 + 1))
      have hg4 := ((s1.2.trans s2.2).trans s3.2).trans s4.2
      have hxin : 0 < m → w1.ownsRow lo 100 5 (.slice x.a m x.d) m (nmV x.p.ns) ∧ ∀ b, (Value.slice x.a m x.d).ownBlock = some b → b < hi := fun hp => by
        rw [HMM.out]; exact hO1.inner x (List.mem_of_getElem? (markedP_at (k := k) HXX.out)) (by rw [← HMM.out]; exact hp)
      have hin4 : 0 < m → (((((w1.setCell ⟨g, j * 5, none⟩ (.string (markB q))).setCell ⟨g, j * 5 + 1, none⟩ (.int .i64 ((q : Int) + 1))).setCell ⟨g, j * 5 + 2, none⟩ (.int .i64 ((q : Int) + 1 + 1))).setCell ⟨g, j * 5 + 3, none⟩ (.int .i64 ((q : Int) + 1 + 1 + 1)))).ownsRow lo 100 5 (.slice x.a m x.d) m (nmV x.p.ns) := fun hp =>
        World.ownsRow.kept (hxin hp).1 hg4 (rows_apart11 (by decide) (hxin hp).1 hown1)
      have CM := Lib.hid (uMarkQ lo x.a m x.d (q + 4) x.p.ns _ (by omega) hq4 hxm hin4)
      have hq4i : ((q + 4 : Nat) : Int) = (q : Int) + 1 + 1 + 1 + 1 := by omega
      rw [hq4i] at CM
      have HO1 := Lib.hid hO1
      have HS4 := Lib.hid s4.1
      have HG4 := Lib.hid hg4
      have HXIN := Lib.hid hxin
      have HB1 := Lib.hid hb1
      clear hO1 hown1 hl1 a0 a1 a2 a3 a4 s1 s2 s3 s4 hg4 hxin hin4 hb1 hq4i
      go_wp2_with fail
      refine CM.out.mono ?_
      rintro e w2 ⟨rfl, hmk, r, hr, hgr⟩
      have hin2 := fun hp => hmk lo (nmV x.p.ns) (fun hp => World.ownsRow.kept (HXIN.out hp).1 HG4.out (rows_apart11 (by decide) (HXIN.out hp).1 HO1.out.row)) hp
      have hrg : ∀ b, r = some b → 0 < m ∧ b ≠ g := fun b hb => by
        obtain ⟨h1, h2⟩ := hr b hb
        refine ⟨h1, fun e => ?_⟩
        subst e
        rcases rows_apart11 (by decide) (HXIN.out h1).1 HO1.out.row with h3 | h3
        · rw [h3] at h2; cases h2
        · exact h3 h2
      have hrow2 : w2.ownsRow lo 29 5 (.slice (some ⟨g, 0, none⟩) n c) n (plV (markedP k (j + 1) es)) := by
        have h1 : (((((plV (markedP k j es)).set (j * 5) (.string (markB q))).set (j * 5 + 1) (.int .i64 ((q : Int) + 1))).set (j * 5 + 2) (.int .i64 ((q : Int) + 1 + 1))).set (j * 5 + 3) (.int .i64 ((q : Int) + 1 + 1 + 1))) = plV (markedP k (j + 1) es) := by
          have h2 := plV_set5 (markedP k j es) j (markP q x) (by rw [markedP_len _ _ _ (by have := HX.out; omega), HX.out]; exact hlt)
          rw [show q = k + wideL (es.take j) from HQ.out, markedP_step HXX.out, ← show q = k + wideL (es.take j) from HQ.out] at h2
          rw [← h2]
          unfold markP
          dsimp only
          rw [marksN_len]
          have h3 := (plV_at _ j x (markedP_at (k := k) HXX.out)).2.2.2.2
          symm
          apply set_self11
          rw [List.getElem?_set_ne (by omega), List.getElem?_set_ne (by omega), List.getElem?_set_ne (by omega), List.getElem?_set_ne (by omega)]
          exact h3
        rw [← h1]
        exact World.ownsRow.kept HS4.out hgr (by
          rcases hr' : r with _ | b
          · exact .inr (by intro e; cases e)
          · exact .inr (fun e => (hrg b hr').2 (by injection e with e; exact e.symm)))
      have HO2 : Hid (OwnP w2 lo hi (some ⟨g, 0, none⟩) n c (markedP k (j + 1) es)) := Lib.hid (by
        rw [← markedP_step HXX.out]
        have hq' : k + wideL (es.take j) = q := HQ.out.symm
        rw [hq']
        refine HO1.out.remark (markedP_at (k := k) HXX.out) rfl rfl (markP_len q x) ?_ ?_ ?_
        · rw [← hq', markedP_step HXX.out]; exact hrow2
        · intro hp
          rw [markP_len] at hp ⊢
          rw [← HMM.out] at hp ⊢
          have := hin2 hp
          unfold markP
          rw [HMM.out] at this ⊢
          exact this
        · intro b hb hbg hbe
          have hs4 := HG4.out.size
          rw [hgr.block b (by omega) (by
            intro e
            have h1 := hr b e.symm
            rw [← HMM.out] at hbe
            exact hbe h1.1 h1.2)]
          exact HG4.out.block b hb (by intro e; injection e with e; exact hbg e))
      have HG2 : Hid (FrameI lo hi w w2) := Lib.hid ((((HG.out.trans (FrameI.of_below HB1.out))).trans (FrameI.of_grown HG4.out (fun x hx => by cases hx; exact HLO.out))).trans (FrameI.of_grown hgr (fun b hb => by
        have h1 := hr b hb
        exact ⟨((HXIN.out h1.1).1.lt b h1.2).1, (HXIN.out h1.1).2 b h1.2⟩)))
      have HQ2 : Hid (q + wideP x = k + wideL (es.take (j + 1))) := Lib.hid (by rw [wideL_step HXX.out]; have := HQ.out; omega)
      have hqq := Lib.hid (show ((q : Int) + (4 + 5 * (m : Int))) = ((q + wideP x : Nat) : Int) by rw [hwx]; omega)
      have hq2 : 1 ≤ q + wideP x := by omega
      clear hin2 hrow2 hrg hmk hr hgr
      go_wp2_with fail
      go_roundw
      case rel => exact ⟨j + 1, q + wideP x, by omega, by go_num, by first | (rw [← hqq.out]; done) | (rw [hqq.out]; done) | (rw [← hqq.out]; go_num), hq2, HQ2, HO2, HG2⟩
      case measure => simp [intOf]; omega
    · obtain rfl : j = n := by omega
      have HF : Hid (OwnP wr lo hi (some ⟨g, 0, none⟩) j c (marksP k es) ∧ q = k + wideL es) := Lib.hid (by
        have h1 := HR.out
        have h2 := HQ.out
        have h3 := HX.out
        rw [← h3, markedP_all] at h1
        rw [List.take_of_length_le (by omega)] at h2
        rw [h3] at h1
        exact ⟨h1, h2⟩)
      go_wp2_with fail
      go_ret
      exact ⟨ret_int (by have := HF.out.2; omega), HF.out.1, HG.out⟩
end Go.Proofs.YtglmibmjbignbaaGreatDoor
