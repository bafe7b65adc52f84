/-
  The contracts of the laws' markRuleS, heldRuleS and markRule.
-/
import Derived.Test.YtnodnjaajaemcabRules
import Derived.Test.YtnodnjaajaemcabMarkText
namespace Go.Proofs.Ytnodnjaajaemcab
set_option linter.unusedVariables false
open Go.RowKit

/-- Memory is as it was, new blocks and the blocks S aside. -/
structure FrameR (S : List Nat) (w w' : World) : Prop where
  os : w'.os = w.os
  tape : w'.tape = w.tape
  output : w'.output = w.output
  size : w.heap.size ≤ w'.heap.size
  block : ∀ b, b < w.heap.size → b ∉ S → w'.heap[b]? = w.heap[b]?
theorem FrameR.refl (S : List Nat) (w : World) : FrameR S w w := ⟨rfl, rfl, rfl, Nat.le_refl _, fun _ _ _ => rfl⟩
theorem FrameR.trans {S : List Nat} {a b c : World} (h : FrameR S a b) (k : FrameR S b c) : FrameR S a c :=
  ⟨k.os.trans h.os, k.tape.trans h.tape, k.output.trans h.output, Nat.le_trans h.size k.size, fun x hx hn => (k.block x (Nat.lt_of_lt_of_le hx h.size) hn).trans (h.block x hx hn)⟩
theorem FrameR.of_below {S : List Nat} {w w' : World} (h : Below w.heap.size w w') : FrameR S w w' := ⟨h.os, h.tape, h.output, h.size, fun b hb _ => h.block b hb⟩
theorem FrameR.of_grown {S : List Nat} {w w' : World} {r : Option Nat} (h : w.grownBy w' r) (hr : ∀ x, r = some x → x ∈ S) : FrameR S w w' :=
  ⟨h.os, h.tape, h.output, h.size, fun b hb hn => h.block b hb (fun e => hn (hr b e.symm))⟩
theorem FrameR.setCell {S : List Nat} (w : World) {a : Addr} (ha : a.block ∈ S) (v : Value) : FrameR S w (w.setCell a v) :=
  ⟨rfl, rfl, rfl, by simp, fun b _ hn => Below.heap_setCell _ _ _ _ (by rintro rfl; exact hn ha)⟩
theorem FrameR.below {S : List Nat} {B : Nat} {a w w' : World} (h : Below B a w) (hf : FrameR S w w') (hS : ∀ b ∈ S, B ≤ b) (hB : B ≤ w.heap.size) : Below B a w' :=
  ⟨hf.os.trans h.os, hf.tape.trans h.tape, hf.output.trans h.output, Nat.le_trans h.size hf.size, fun k hk => (hf.block k (by omega) (fun hm => by have := hS k hm; omega)).trans (h.block k hk)⟩

theorem OwnR.outer {w : World} {B g n c : Nat} {es : List El} (h : OwnR w B g n c es) : w.ownsRow B 44 2 (.slice (some ⟨g, 0, none⟩) n c) n (elsV es) := by
  have := h.2.row
  rwa [h.1, Nat.sub_self, show zerosR 0 = [] from rfl, List.append_nil] at this
theorem OwnR.frame {S : List Nat} {w w' : World} {B g n c : Nat} {es : List El} (h : OwnR w B g n c es) (hf : FrameR S w w') (hS : ∀ b ∈ g :: es.map (·.1), b ∉ S) : OwnR w' B g n c es :=
  ⟨h.1, h.2.kept hf.size fun b hb => hf.block b (h.2.mem_lt b hb).2 (hS b hb)⟩
theorem OwnR.replace {w w' : World} {B g n c : Nat} {pre rest : List El} {e e' : El} (h : OwnR w B g n c (pre ++ e :: rest)) (hb : e'.1 = e.1) (hs : w.heap.size ≤ w'.heap.size)
    (hrow : w'.ownsRow B 44 2 (.slice (some ⟨g, 0, none⟩) n c) n (elsV (pre ++ e' :: rest)))
    (hin : 0 < e'.2.2.1.length → w'.ownsRow B 2 1 (.slice (some ⟨e'.1, 0, none⟩) e'.2.2.1.length e'.2.1) e'.2.2.1.length (intV e'.2.2.1))
    (hk : ∀ b, b < w.heap.size → b ≠ g → b ≠ e.1 → w'.heap[b]? = w.heap[b]?) : OwnR w' B g n c (pre ++ e' :: rest) := by
  have hlen : (pre ++ e' :: rest).length = n := by have := h.1; simp at *; omega
  have hmap : (pre ++ e' :: rest).map (·.1) = (pre ++ e :: rest).map (·.1) := by simp [hb]
  have hnd := h.2.nodup
  refine ⟨hlen, ⟨by omega, by rw [hlen, Nat.sub_self, show zerosR 0 = [] from rfl, List.append_nil]; exact hrow, ?_, by rw [hmap]; exact hnd⟩⟩
  have hnd2 : (pre.map (·.1) ++ e.1 :: rest.map (·.1)).Nodup ∧ g ∉ (pre.map (·.1) ++ e.1 :: rest.map (·.1)) := by
    rw [List.nodup_cons, List.map_append, List.map_cons] at hnd; exact ⟨hnd.2, hnd.1⟩
  have other : ∀ x, (x ∈ pre ∨ x ∈ rest) → B ≤ x.1 ∧ x.1 < w'.heap.size ∧ (0 < x.2.2.1.length → w'.ownsRow B 2 1 (.slice (some ⟨x.1, 0, none⟩) x.2.2.1.length x.2.1) x.2.2.1.length (intV x.2.2.1)) := by
    intro x hx
    obtain ⟨h1, h2, h3⟩ := h.2.inner x (by rw [List.mem_append, List.mem_cons]; rcases hx with hx | hx; exact .inl hx; exact .inr (.inr hx))
    have hxm : x.1 ∈ pre.map (·.1) ∨ x.1 ∈ rest.map (·.1) := by
      rcases hx with hx | hx
      · exact .inl (List.mem_map_of_mem hx)
      · exact .inr (List.mem_map_of_mem hx)
    have hxg : x.1 ≠ g := by
      rintro e0
      apply hnd2.2
      rw [← e0, List.mem_append, List.mem_cons]
      rcases hxm with hx | hx
      · exact .inl hx
      · exact .inr (.inr hx)
    have hxe : x.1 ≠ e.1 := by
      intro e0
      have hh := hnd2.1
      rw [List.nodup_append] at hh
      rcases hxm with hx | hx
      · exact hh.2.2 x.1 hx e.1 (by simp) e0
      · have := hh.2.1
        rw [List.nodup_cons] at this
        exact this.1 (by rw [← e0]; exact hx)
    exact ⟨h1, by omega, fun hp => ownsRow_block (h3 hp) (hk x.1 h2 hxg hxe)⟩
  intro x hx
  rw [List.mem_append, List.mem_cons] at hx
  rcases hx with hx | rfl | hx
  · exact other x (.inl hx)
  · obtain ⟨h1, h2, _⟩ := h.2.inner e (by simp)
    exact ⟨by rw [hb]; exact h1, by rw [hb]; omega, hin⟩
  · exact other x (.inr hx)

def totR (es : List El) : Nat := (es.map fun e => e.2.2.1.length + 1).sum
theorem totR_snoc (es : List El) (e : El) : totR (es ++ [e]) = totR es + (e.2.2.1.length + 1) := by simp [totR]
def markEl (k : Nat) (e : El) : El := (e.1, e.2.1, (marksI k e.2.2.1.length, markB (k + e.2.2.1.length)))
def markEs : Nat → List El → List El
  | _, [] => []
  | k, e :: es => markEl k e :: markEs (k + (e.2.2.1.length + 1)) es
theorem markEs_snoc : ∀ (es : List El) (k : Nat) (e : El), markEs k (es ++ [e]) = markEs k es ++ [markEl (k + totR es) e]
  | [], k, e => by simp [markEs, totR]
  | x :: es, k, e => by
    rw [List.cons_append, markEs, markEs_snoc es, markEs, List.cons_append]
    have : totR (x :: es) = (x.2.2.1.length + 1) + totR es := by simp [totR]
    rw [this, show k + (x.2.2.1.length + 1 + totR es) = k + (x.2.2.1.length + 1) + totR es by omega]
theorem markEs_len : ∀ (es : List El) (k : Nat), (markEs k es).length = es.length
  | [], k => rfl
  | x :: es, k => by rw [markEs, List.length_cons, markEs_len es, List.length_cons]
theorem markEs_blocks : ∀ (es : List El) (k : Nat), (markEs k es).map (·.1) = es.map (·.1)
  | [], k => rfl
  | x :: es, k => by rw [markEs, List.map_cons, markEs_blocks es, List.map_cons]; rfl
theorem markEs_at : ∀ (es : List El) (k j : Nat) (e : El), es[j]? = some e → (markEs k es)[j]? = some (markEl (k + totR (es.take j)) e)
  | [], k, j, e, h => by simp at h
  | x :: es, k, 0, e, h => by
    obtain rfl : x = e := by simpa using h
    simp [markEs, totR]
  | x :: es, k, j + 1, e, h => by
    rw [List.getElem?_cons_succ] at h
    have ih := markEs_at es (k + (x.2.2.1.length + 1)) j e h
    rw [markEs, List.getElem?_cons_succ, ih]
    have : totR ((x :: es).take (j + 1)) = (x.2.2.1.length + 1) + totR (es.take j) := by simp [totR]
    rw [this, show k + (x.2.2.1.length + 1 + totR (es.take j)) = k + (x.2.2.1.length + 1) + totR (es.take j) by omega]
theorem totR_append (a b : List El) : totR (a ++ b) = totR a + totR b := by simp [totR]
theorem totR_le {es : List El} {j : Nat} {e : El} (h : es[j]? = some e) : totR (es.take j) + (e.2.2.1.length + 1) ≤ totR es := by
  have h2 : es.take (j + 1) = es.take j ++ [e] := takeK_snoc h
  have h3 := totR_snoc (es.take j) e
  rw [← h2] at h3
  have h4 := totR_append (es.take (j + 1)) (es.drop (j + 1))
  rw [List.take_append_drop] at h4
  omega

/-- Marking the numbers of one element. -/
theorem cMarkI1 (B g m c k : Nat) (xs : List Int) (w : World) (hm : m = xs.length) (hkn : k + m ≤ 1099511627776) (h : 0 < m → w.ownsRow B 2 1 (.slice (some ⟨g, 0, none⟩) m c) m (intV xs)) :
    Calls Try.prog 15 #[.slice (some ⟨g, 0, none⟩) m c, .int .i64 k] w fun e w' => e = .returned (.int .i64 ((k + m : Nat) : Int)) ∧
      (0 < m → w'.ownsRow B 2 1 (.slice (some ⟨g, 0, none⟩) m c) m (intV (marksI k m))) ∧ w.grownBy w' (some g) := by
  rcases Nat.eq_zero_or_pos m with rfl | hp
  · refine (cMarkI_none _ c k w).mono ?_
    rintro e w' ⟨rfl, rfl⟩
    exact ⟨rfl, fun hp => absurd hp (by omega), World.grownBy.refl _ _⟩
  · refine (cMarkI _ m c k xs w hkn (RowI.of (h hp))).mono ?_
    rintro e w' ⟨rfl, hr, hg⟩
    refine ⟨rfl, fun _ => ?_, hg⟩
    obtain ⟨h1, h2⟩ := hr
    refine ⟨h1, ?_⟩
    rcases h2 with h2 | ⟨g', cap, cur, e1, e2, e3⟩
    · exact .inl h2
    · obtain rfl : g = g' := by injection e1 with e1; injection e1 with e1; injection e1
      exact .inr ⟨g, cap, cur, e1, ((h hp).lt _ rfl).1, e3⟩
theorem cHeldI1 (B g m c k : Nat) (w : World) (hkn : k + m ≤ 1099511627776) (h : 0 < m → w.ownsRow B 2 1 (.slice (some ⟨g, 0, none⟩) m c) m (intV (marksI k m))) :
    Calls Try.prog 16 #[.slice (some ⟨g, 0, none⟩) m c, .int .i64 k] w fun e w' => e = .returned (.int .i64 ((k + m : Nat) : Int)) ∧ w = w' := by
  rcases Nat.eq_zero_or_pos m with rfl | hp
  · exact cHeldI_none _ c k w
  · exact cHeldI _ m c k w hkn (RowI.of (h hp))
theorem elsV_text (pre rest : List El) (e : El) (t : ByteArray) (zs : List Int) (hz : zs.length = e.2.2.1.length) : (elsV (pre ++ e :: rest)).set (pre.length * 2 + 1) (.string t) = elsV (pre ++ (e.1, e.2.1, (zs, t)) :: rest) := by
  rw [elsV_app, elsV_app, elsV_cons, elsV_cons, List.set_append_right _ _ (by rw [elsV_len]; omega), elsV_len, show pre.length * 2 + 1 - pre.length * 2 = 0 + 1 by omega, List.set_cons_succ, List.set_cons_zero, hz]

def MarkRPost (B g n c k : Nat) (es : List El) (w : World) (e : Ending) (w' : World) : Prop :=
  e = .returned (.int .i64 ((k + totR es : Nat) : Int)) ∧ OwnR w' B g n c (markEs k es) ∧ FrameR (g :: es.map (·.1)) w w'

set_option maxHeartbeats 2000000 in
set_option maxRecDepth 100000 in
theorem cMarkRs (B g n c k : Nat) (es : List El) (w : World) (hk : 1 ≤ k) (hkn : k + totR es ≤ 1099511627776) (hn : n ≤ 1048576) (h : OwnR w B g n c es) :
    Calls Try.prog 14 #[.slice (some ⟨g, 0, none⟩) n c, .int .i64 k] w (MarkRPost B g n c k es w) := by
  have HL := Lib.hid h.1
  have H := Lib.hid h
  clear h
  go_enter Try.func14, Try.ntmps14
  go_wp2
  go_loopw [1, 5] (fun kk i wr => ∃ j q : Nat, j ≤ n ∧ i = .int .i64 j ∧ kk = .int .i64 q ∧ 1 ≤ q ∧ Hid (q = k + totR (es.take j)) ∧ Hid (OwnR wr B g n c (markEs k (es.take j) ++ es.drop j)) ∧ Hid (FrameR (g :: es.map (·.1)) w wr)) (fun _ i _ => n - (intOf i).toNat)
  case atStart => exact ⟨0, k, Nat.zero_le _, rfl, rfl, hk, Lib.hid (by simp [totR]), Lib.hid (by simpa [markEs] using H.out), Lib.hid (FrameR.refl _ _)⟩
  case round =>
    obtain ⟨j, q, hj, rfl, rfl, hq1, HQ, HO, HF⟩ := hrel
    by_cases hlt : j < n
    · obtain ⟨e, he⟩ : ∃ e, es[j]? = some e := ⟨es[j]'(by have := HL.out; omega), List.getElem?_eq_getElem _⟩
      have hjl : j < es.length := by have := HL.out; omega
      have hdrop : es.drop j = e :: es.drop (j + 1) := by rw [List.drop_eq_getElem_cons hjl, (List.getElem?_eq_some_iff.1 he).2]
      have htl := totR_le he
      have hpl : (markEs k (es.take j)).length = j := by rw [markEs_len, List.length_take]; omega
      have ho := HO.out
      rw [hdrop] at ho
      have hrow := ho.outer
      have hcat := elsV_at (markEs k (es.take j) ++ e :: es.drop (j + 1)) j e (by rw [List.getElem?_append_right (by omega), hpl, Nat.sub_self]; rfl)
      have k0 : wr.cell? ⟨g, j * 2, none⟩ = some (.slice (some ⟨e.1, 0, none⟩) e.2.2.1.length e.2.1) := (hrow.cellAt (j * 2) (by omega)).trans hcat.1
      obtain ⟨i1, i2, i3⟩ := ho.2.inner e (by simp)
      have hqq : q + (e.2.2.1.length + 1) ≤ 1099511627776 := by have := HQ.out; omega
      have CM := Lib.hid (cMarkI1 B e.1 e.2.2.1.length e.2.1 q e.2.2.1 wr rfl (by omega) i3)
      obtain ⟨m, hm⟩ : ∃ m, m = e.2.2.1.length := ⟨_, rfl⟩
      have HM := Lib.hid hm
      rw [← hm] at k0 CM hqq
      have HE := Lib.hid he
      have HOO := Lib.hid ho
      have HPL := Lib.hid hpl
      have HTK : Hid (es.take (j + 1) = es.take j ++ [e]) := Lib.hid (takeK_snoc he)
      have hgs := ho.2.glt
      have hge : g ≠ e.1 := by
        have := ho.2.nodup
        rw [List.nodup_cons] at this
        rintro e0
        exact this.1 (by rw [e0, List.map_append]; simp)
      have hes : e.1 ∈ g :: es.map (·.1) := by rw [List.mem_cons]; exact .inr (List.mem_map_of_mem (List.mem_of_getElem? he))
      have HES := Lib.hid hes
      clear he hjl hdrop htl hpl ho hrow hcat i1 i2 i3 hm hes HO
      have e0 : (0 : Int) ≤ (j : Int) := by omega
      have e1 : (j : Int) < (n : Int) := by omega
      go_wp2_with fail
      refine CM.out.mono ?_
      rintro en w1 ⟨rfl, hr1, hg1⟩
      have hm := cMarkText (q + m) w1 (by omega) (by omega)
      have HMT := Lib.hid hm
      have hrow1 : w1.ownsRow B 44 2 (.slice (some ⟨g, 0, none⟩) n c) n (elsV (markEs k (es.take j) ++ e :: es.drop (j + 1))) := ownsRow_block HOO.out.outer (hg1.block g hgs.2 (by intro e0; cases e0; exact hge rfl))
      have HR1 := Lib.hid hrow1
      have HI1 := Lib.hid hr1
      clear hm hr1 hrow1 CM
      go_wp2_with fail
      refine (show Calls Try.prog _ _ _ _ from HMT.out).mono ?_
      rintro en w2 ⟨rfl, hb2⟩
      have hrow2 := ownsRow_block HR1.out (hb2.block g (Nat.lt_of_lt_of_le hgs.2 hg1.size))
      have hl2 := hrow2.1
      obtain ⟨v0, d0⟩ : ∃ v, w2.cell? ⟨g, j * 2, none⟩ = some v := ⟨_, (hrow2.cellAt (j * 2) (by omega)).trans (List.getElem?_eq_getElem (by omega))⟩
      obtain ⟨v1, d1⟩ : ∃ v, w2.cell? ⟨g, j * 2 + 1, none⟩ = some v := ⟨_, (hrow2.cellAt (j * 2 + 1) (by omega)).trans (List.getElem?_eq_getElem (by omega))⟩
      have f1 := hrow2.frozenAt (j * 2 + 1)
      have hst := (hrow2.stored (j * 2 + 1) (.string (markB (q + m)))).1
      have het := elsV_text (markEs k (es.take j)) (es.drop (j + 1)) e (markB (q + m)) (marksI q m) (by rw [marksI_len, HM.out])
      rw [HPL.out] at het
      rw [het] at hst
      have hmk : ((e.1, e.2.1, (marksI q m, markB (q + m))) : El) = markEl (k + totR (es.take j)) e := by unfold markEl; rw [← HM.out, ← HQ.out]
      have hel : e.1 < wr.heap.size := (HOO.out.2.inner e (by simp)).2.1
      have hnew : OwnR (w2.setCell ⟨g, j * 2 + 1, none⟩ (.string (markB (q + m)))) B g n c (markEs k (es.take j) ++ (e.1, e.2.1, (marksI q m, markB (q + m))) :: es.drop (j + 1)) := by
        refine HOO.out.replace (e' := (e.1, e.2.1, (marksI q m, markB (q + m)))) rfl (by have := hg1.size; have := hb2.size; simp; omega) hst (fun hp => ?_) ?_
        · have hp2 : 0 < m := by simpa [marksI_len] using hp
          show World.ownsRow _ B _ 1 (.slice (some ⟨e.1, 0, none⟩) (marksI q m).length e.2.1) (marksI q m).length (intV (marksI q m))
          rw [marksI_len]
          refine ownsRow_block (HI1.out hp2) ?_
          rw [Below.heap_setCell _ _ _ _ (by exact hge.symm)]
          exact hb2.block e.1 (Nat.lt_of_lt_of_le hel hg1.size)
        · intro b hb hbg hbe
          rw [Below.heap_setCell _ _ _ _ (by exact hbg)]
          exact (hb2.block b (Nat.lt_of_lt_of_le hb hg1.size)).trans (hg1.block b hb (by intro e0; cases e0; exact hbe rfl))
      have HNEW : Hid (OwnR (w2.setCell ⟨g, j * 2 + 1, none⟩ (.string (markB (q + m)))) B g n c (markEs k (es.take (j + 1)) ++ es.drop (j + 1))) := Lib.hid (by
        rw [HTK.out, markEs_snoc, ← hmk, List.append_assoc]; exact hnew)
      have HF2 : Hid (FrameR (g :: es.map (·.1)) w (w2.setCell ⟨g, j * 2 + 1, none⟩ (.string (markB (q + m))))) := Lib.hid
        (((HF.out.trans (FrameR.of_grown hg1 (fun x hx => by cases hx; exact HES.out))).trans (FrameR.of_below hb2)).trans (FrameR.setCell w2 (by simp) _))
      have HQ2 : Hid (q + m + 1 = k + totR (es.take (j + 1))) := Lib.hid (by have := HQ.out; have := HM.out; rw [HTK.out, totR_snoc]; omega)
      clear hst het hmk hel hnew hrow2 hl2 hb2 hg1 HI1 HR1 HOO HMT
      go_wp2_with fail
      go_roundw
      case rel => exact ⟨j + 1, q + m + 1, by omega, by go_num, by go_num, by omega, HQ2, HNEW, HF2⟩
      case measure => simp [intOf]; omega
    · obtain rfl : j = n := by omega
      have hall : es.take j = es := List.take_of_length_le (by have := HL.out; omega)
      have hnil : es.drop j = [] := List.drop_of_length_le (by have := HL.out; omega)
      have hq := HQ.out
      have ho := HO.out
      rw [hall] at hq
      rw [hall, hnil, List.append_nil] at ho
      have HO2 := Lib.hid ho
      clear ho hall hnil HO
      go_wp2_with fail
      go_ret
      exact ⟨ret_int (by rw [hq]), HO2.out, HF.out⟩

/-- One cell, through a drawn region. -/
def OneR (A0 : World) (b o : Nat) (u : Value) (W : World) : Prop := W.cell? ⟨b, o, none⟩ = some u ∧ b < W.heap.size ∧ Below A0.heap.size A0 W
theorem OneR.keep {A0 W W' : World} {b o : Nat} {u : Value} (h : OneR A0 b o u W) (hb : Below W.heap.size W W') : OneR A0 b o u W' :=
  ⟨(hb.cell (p := ⟨b, o, none⟩) h.2.1).trans h.1, Nat.lt_of_lt_of_le h.2.1 hb.size, h.2.2.trans (hb.mono h.2.2.size)⟩
end Go.Proofs.Ytnodnjaajaemcab
