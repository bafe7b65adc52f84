/-
  The laws' helpers markNameS and heldNameS on rows of names of one's own.
-/
import Derived.Test.YtglmibmjbignbaaGreatDoorNmLaw
import Derived.Test.YtglmibmjbignbaaGreatDoorPlPlain
import Derived.Test.YtglmibmjbignbaaGreatDoorMy12
import Derived.Deep.Onto
namespace Go.Proofs.YtglmibmjbignbaaGreatDoor
section
set_option linter.unusedVariables false
open Go.RowKit

def markN1 (k : Nat) : Nm := ⟨markB k, markB (k + 1), (k : Int) + 1 + 1, (k : Int) + 1 + 1 + 1, (k : Int) + 1 + 1 + 1 + 1⟩
def marksN (k n : Nat) : List Nm := (List.range n).map fun i => markN1 (k + 5 * i)
theorem marksN_len (k n : Nat) : (marksN k n).length = n := by simp [marksN]
theorem marksN_at (k n j : Nat) (h : j < n) : (marksN k n)[j]? = some (markN1 (k + 5 * j)) := by simp [marksN, h]
theorem marksN_succ (k j : Nat) : marksN k (j + 1) = marksN k j ++ [markN1 (k + 5 * j)] := by unfold marksN; rw [List.range_succ, List.map_append]; rfl
def markN (k j : Nat) (xs : List Nm) : List Nm := marksN k j ++ xs.drop j
theorem markN_len (k j : Nat) (xs : List Nm) (h : j ≤ xs.length) : (markN k j xs).length = xs.length := by unfold markN; rw [List.length_append, marksN_len, List.length_drop]; omega
theorem markN_step (k j : Nat) (xs : List Nm) (h : j < xs.length) : (markN k j xs).set j (markN1 (k + 5 * j)) = markN k (j + 1) xs := by
  unfold markN
  rw [List.set_append_right _ _ (by rw [marksN_len]; exact Nat.le_refl _), marksN_len, Nat.sub_self, List.drop_eq_getElem_cons h, List.set_cons_zero, marksN_succ, List.append_assoc]
  rfl
theorem bgrown9 {w w' : World} (h : Below w.heap.size w w') (row : Option Nat) : w.grownBy w' row := ⟨h.os, h.tape, h.output, h.size, fun k hk _ => h.block k hk⟩
theorem cMarkN_none (A : Option Addr) (c : Nat) (k : Int) (w : World) :
    Calls Tryz.prog 112 #[.slice A 0 c, .int .i64 k] w fun e w' => e = .returned (.int .i64 k) ∧ w = w' := by
  go_enter Tryz.func112, Tryz.ntmps112
  go_wp2
  refine wp_loop_rounds 1 ?_
  rw [rounds_succ]
  go_wp2
  go_ret
  exact ⟨rfl, rfl⟩
def MarkedN (lo : Nat) (A : Option Addr) (n c k : Nat) (w : World) (e : Ending) (w' : World) : Prop :=
  e = .returned (.int .i64 ((k + 5 * n : Nat) : Int)) ∧ w'.ownsRow lo 100 5 (.slice A n c) n (nmV (marksN k n)) ∧ w.grownBy w' (Value.slice A n c).ownBlock
set_option maxHeartbeats 4000000 in
set_option maxRecDepth 100000 in
theorem uMarkN (lo : Nat) (A : Option Addr) (n c k : Nat) (xs : List Nm) (w : World) (hk : 1 ≤ k) (hk2 : k ≤ 1073741824) (hn : n ≤ 1048576) (h : w.ownsRow lo 100 5 (.slice A n c) n (nmV xs)) :
    Calls Tryz.prog 112 #[.slice A n c, .int .i64 (k : Int)] w (MarkedN lo A n c k w) := by
  have hxl : xs.length = n := by have := h.1; rw [nmV_len] at this; omega
  rcases Nat.eq_zero_or_pos n with rfl | hp
  · refine (cMarkN_none A c k w).mono ?_
    rintro e w' ⟨rfl, rfl⟩
    obtain rfl : xs = [] := List.eq_nil_of_length_eq_zero hxl
    exact ⟨rfl, h, World.grownBy.refl _ _⟩
  obtain ⟨g, cc, hv, _, hgl⟩ := World.ownsRow.form h hp
  obtain ⟨rfl, rfl⟩ : A = some ⟨g, 0, none⟩ ∧ c = cc := by injection hv with h1 h2 h3; exact ⟨h1, h3⟩
  have H := Lib.hid h
  have HX := Lib.hid hxl
  clear hv h hxl
  go_enter Tryz.func112, Tryz.ntmps112
  go_wp2_with fail
  go_loopw [1, 5] (fun kk i wr => ∃ (j : Nat), j ≤ n ∧ i = .int .i64 j ∧ kk = .int .i64 ((k : Int) + 5 * j) ∧ Hid (wr.ownsRow lo 100 5 (.slice (some ⟨g, 0, none⟩) n c) n (nmV (markN k j xs))) ∧ w.grownBy wr (some g)) (fun _ i _ => n - (intOf i).toNat)
  case atStart => exact ⟨0, Nat.zero_le _, rfl, by simp, by unfold markN marksN; exact H, World.grownBy.refl _ _⟩
  case round =>
    obtain ⟨j, hj, rfl, rfl, HR, hgr⟩ := hrel
    by_cases hlt : j < n
    · have hm0 := fun W => cMarkText (k + 5 * j) W (by omega) (by omega)
      have hm1 := fun W => cMarkText (k + 5 * j + 1) W (by omega) (by omega)
      rw [show ((k + 5 * j : Nat) : Int) = (k : Int) + 5 * (j : Int) from by omega] at hm0
      rw [show ((k + 5 * j + 1 : Nat) : Int) = (k : Int) + 5 * (j : Int) + 1 from by omega] at hm1
      have HM0 := Lib.hid hm0
      have HM1 := Lib.hid hm1
      clear hm0 hm1
      have u1 : (0 : Int) ≤ (j : Int) := Int.natCast_nonneg _
      have u2 : (j : Int) < (n : Int) := by omega
      have u3 : (0 : Int) ≤ (k : Int) := Int.natCast_nonneg _
      have u4 : (k : Int) + 5 * (j : Int) ≤ 1099511627776 := by omega
      go_wp2_with fail
      refine (HM0.out _).mono ?_
      rintro e w1 ⟨rfl, hb1⟩
      have hown1 := HR.out.kept (bgrown9 hb1 none) (by simp [Value.ownBlock])
      have hl1 := hown1.1
      obtain ⟨v0, d0⟩ : ∃ v, w1.cell? ⟨g, j * 5, none⟩ = some v := ⟨_, (hown1.cellAt (j * 5) (by omega)).trans (List.getElem?_eq_getElem (by omega))⟩
      have f0 := hown1.frozenAt (j * 5)
      have hst1 := hown1.stored (j * 5) (.string (markB (k + 5 * j)))
      have hgr1 := (hgr.trans (bgrown9 hb1 (some g))).trans hst1.2
      have HS1 := Lib.hid hst1.1
      clear hst1 hown1 hl1 hgr hb1 HR
      go_wp2_with fail
      refine (HM1.out _).mono ?_
      rintro e w2 ⟨rfl, hb2⟩
      have hown2 := HS1.out.kept (bgrown9 hb2 none) (by simp [Value.ownBlock])
      have hl2 := hown2.1
      obtain ⟨v1, d1⟩ : ∃ v, w2.cell? ⟨g, j * 5 + 1, none⟩ = some v := ⟨_, (hown2.cellAt (j * 5 + 1) (by omega)).trans (List.getElem?_eq_getElem (by omega))⟩
      obtain ⟨v2, d2⟩ : ∃ v, w2.cell? ⟨g, j * 5 + 2, none⟩ = some v := ⟨_, (hown2.cellAt (j * 5 + 2) (by omega)).trans (List.getElem?_eq_getElem (by omega))⟩
      obtain ⟨v3, d3⟩ : ∃ v, w2.cell? ⟨g, j * 5 + 3, none⟩ = some v := ⟨_, (hown2.cellAt (j * 5 + 3) (by omega)).trans (List.getElem?_eq_getElem (by omega))⟩
      obtain ⟨v4, d4⟩ : ∃ v, w2.cell? ⟨g, j * 5 + 4, none⟩ = some v := ⟨_, (hown2.cellAt (j * 5 + 4) (by omega)).trans (List.getElem?_eq_getElem (by omega))⟩
      have f1 := hown2.frozenAt (j * 5 + 1)
      have f2 := hown2.frozenAt (j * 5 + 2)
      have f3 := hown2.frozenAt (j * 5 + 3)
      have f4 := hown2.frozenAt (j * 5 + 4)
      have hst2 := hown2.stored (j * 5 + 1) (.string (markB (k + 5 * j + 1)))
      have hst3 := hst2.1.stored (j * 5 + 2) (.int .i64 ((k : Int) + 5 * (j : Int) + 1 + 1))
      have hst4 := hst3.1.stored (j * 5 + 3) (.int .i64 ((k : Int) + 5 * (j : Int) + 1 + 1 + 1))
      have hst5 := hst4.1.stored (j * 5 + 4) (.int .i64 ((k : Int) + 5 * (j : Int) + 1 + 1 + 1 + 1))
      have hgr3 := (((((hgr1.trans (bgrown9 hb2 (some g))).trans hst2.2).trans hst3.2).trans hst4.2).trans hst5.2)
      have hrow := hst5.1
      have hs5 := nmV_set5 (markN k j xs) j (markN1 (k + 5 * j)) (by rw [markN_len k j xs (by have := HX.out; omega), HX.out]; exact hlt)
      rw [markN_step k j xs (by rw [HX.out]; exact hlt)] at hs5
      have hs6 : ((((((nmV (markN k j xs)).set (j * 5) (.string (markB (k + 5 * j)))).set (j * 5 + 1) (.string (markB (k + 5 * j + 1)))).set (j * 5 + 2) (.int .i64 ((k : Int) + 5 * (j : Int) + 1 + 1))).set (j * 5 + 3) (.int .i64 ((k : Int) + 5 * (j : Int) + 1 + 1 + 1))).set (j * 5 + 4) (.int .i64 ((k : Int) + 5 * (j : Int) + 1 + 1 + 1 + 1))) = nmV (markN k (j + 1) xs) := by
        rw [← hs5]; unfold markN1; dsimp only; rw [show ((k + 5 * j : Nat) : Int) = (k : Int) + 5 * (j : Int) from by omega]
      rw [hs6] at hrow
      have HS3 := Lib.hid hrow
      clear hst2 hst3 hst4 hst5 hown2 hl2 hb2 HS1 hgr1 hs5 hs6 hrow
      go_wp2_with fail
      go_roundw
      case rel => exact ⟨j + 1, by omega, by go_num, by go_num, HS3, hgr3⟩
      case measure => simp [intOf]; omega
    · obtain rfl : j = n := by omega
      have hfin : wr.ownsRow lo 100 5 (.slice (some ⟨g, 0, none⟩) j c) j (nmV (marksN k j)) := by
        have h1 := HR.out
        unfold markN at h1
        rw [List.drop_eq_nil_of_le (by have := HX.out; omega), List.append_nil] at h1
        exact h1
      have HF := Lib.hid hfin
      clear hfin
      go_wp2_with fail
      go_ret
      exact ⟨ret_int (by omega), HF.out, hgr⟩

end
section
set_option linter.unusedVariables false
open Go.RowKit

/-- Rows of different types share no block. -/
theorem rows_apart11 {w : World} {B B' s s' n n' : Nat} {T T' : TypeId} {v v' : Value} {xs xs' : List Value} (hT : T ≠ T') (h : w.ownsRow B T s v n xs) (h' : w.ownsRow B' T' s' v' n' xs') :
    v.ownBlock = none ∨ v.ownBlock ≠ v'.ownBlock := by
  rcases h.2 with ⟨rfl, _⟩ | ⟨g, cap, cur, rfl, _, h3, _⟩
  · exact .inl rfl
  · right
    intro e
    rcases h'.2 with ⟨rfl, _⟩ | ⟨g', cap', cur', rfl, _, h3', _⟩
    · cases e
    · simp [Value.ownBlock] at e
      subst e
      rw [h3] at h3'
      simp at h3'
      exact hT h3'.2
theorem own_any11 {w : World} {B B' s n : Nat} {T : TypeId} {v : Value} {xs : List Value} (h : w.ownsRow B T s v n xs) (hb : ∀ k, v.ownBlock = some k → B' ≤ k) : w.ownsRow B' T s v n xs :=
  ⟨h.1, by
    rcases h.2 with h2 | ⟨g, cap, cur, h1, h2, h3⟩
    · exact .inl h2
    · exact .inr ⟨g, cap, cur, h1, hb g (by rw [h1]; rfl), h3⟩⟩
theorem own_block11 {w w' : World} {B s n : Nat} {T : TypeId} {v : Value} {xs : List Value} (h : w.ownsRow B T s v n xs) (hb : ∀ k, v.ownBlock = some k → w'.heap[k]? = w.heap[k]?) : w'.ownsRow B T s v n xs :=
  ⟨h.1, by
    rcases h.2 with h2 | ⟨g, cap, cur, h1, h2, h3, h4⟩
    · exact .inl h2
    · exact .inr ⟨g, cap, cur, h1, h2, (hb g (by rw [h1]; rfl)).trans h3, h4⟩⟩

/-- From w to w' no block has changed but those from lo on below hi, and new ones. -/
structure FrameI (lo hi : Nat) (w w' : World) : Prop where
  os : w'.os = w.os
  tape : w'.tape = w.tape
  output : w'.output = w.output
  size : w.heap.size ≤ w'.heap.size
  block : ∀ k, k < w.heap.size → (k < lo ∨ hi ≤ k) → w'.heap[k]? = w.heap[k]?
theorem FrameI.refl (lo hi : Nat) (w : World) : FrameI lo hi w w := ⟨rfl, rfl, rfl, Nat.le_refl _, fun _ _ _ => rfl⟩
theorem FrameI.trans {lo hi : Nat} {a b c : World} (h : FrameI lo hi a b) (k : FrameI lo hi b c) : FrameI lo hi a c :=
  ⟨k.os.trans h.os, k.tape.trans h.tape, k.output.trans h.output, Nat.le_trans h.size k.size, fun x hx hn => (k.block x (Nat.lt_of_lt_of_le hx h.size) hn).trans (h.block x hx hn)⟩
theorem FrameI.of_below {lo hi : Nat} {w w' : World} (h : Below w.heap.size w w') : FrameI lo hi w w' := ⟨h.os, h.tape, h.output, h.size, fun b hb _ => h.block b hb⟩
theorem FrameI.of_grown {lo hi : Nat} {w w' : World} {r : Option Nat} (h : w.grownBy w' r) (hr : ∀ x, r = some x → lo ≤ x ∧ x < hi) : FrameI lo hi w w' :=
  ⟨h.os, h.tape, h.output, h.size, fun b hb hn => h.block b hb (fun e => by have := hr b e.symm; omega)⟩
theorem FrameI.setCell {lo hi : Nat} (w : World) {a : Addr} (h1 : lo ≤ a.block) (h2 : a.block < hi) (v : Value) : FrameI lo hi w (w.setCell a v) :=
  ⟨rfl, rfl, rfl, by simp, fun b _ hn => Below.heap_setCell _ _ _ _ (by rintro rfl; omega)⟩
theorem FrameI.below {lo hi B : Nat} {a w w' : World} (h : Below B a w) (hf : FrameI lo hi w w') (hS : B ≤ lo) (hB : B ≤ w.heap.size) : Below B a w' :=
  ⟨hf.os.trans h.os, hf.tape.trans h.tape, hf.output.trans h.output, Nat.le_trans h.size hf.size, fun k hk => (hf.block k (by omega) (.inl (by omega))).trans (h.block k hk)⟩
theorem FrameI.wide {lo hi lo' hi' : Nat} {w w' : World} (h : FrameI lo hi w w') (h1 : lo' ≤ lo) (h2 : hi ≤ hi') : FrameI lo' hi' w w' :=
  ⟨h.os, h.tape, h.output, h.size, fun k hk hn => h.block k hk (by omega)⟩
theorem Sp.markI {lo hi a b : Nat} {P : World → Prop} {w w' : World} (h : Sp lo hi P w) (hf : FrameI a b w w') (hd : b ≤ lo ∨ hi ≤ a) : Sp lo hi P w' :=
  h.like ⟨hf.os, hf.tape, hf.output, hf.size, fun k h1 h2 => hf.block k (Nat.lt_of_lt_of_le h2 h.1) (by omega)⟩

/-- A row of places, and rows of names, all of one's own, all from block lo on below hi. -/
structure OwnP (w : World) (lo hi : Nat) (A : Option Addr) (n c : Nat) (es : List PE) : Prop where
  row : w.ownsRow lo 29 5 (.slice A n c) n (plV es)
  top : ∀ k, (Value.slice A n c).ownBlock = some k → k < hi
  inner : ∀ e ∈ es, 0 < e.p.ns.length → w.ownsRow lo 100 5 (.slice e.a e.p.ns.length e.d) e.p.ns.length (nmV e.p.ns) ∧ ∀ k, (Value.slice e.a e.p.ns.length e.d).ownBlock = some k → k < hi
  apart : ∀ (i j : Nat) x y, i ≠ j → es[i]? = some x → es[j]? = some y → 0 < x.p.ns.length → 0 < y.p.ns.length → x.a ≠ y.a
theorem OwnP.len {w : World} {lo hi n c : Nat} {A : Option Addr} {es : List PE} (h : OwnP w lo hi A n c es) : es.length = n := by have := h.row.1; rw [plV_len] at this; omega
theorem OwnP.like {w w' : World} {lo hi n c : Nat} {A : Option Addr} {es : List PE} (h : OwnP w lo hi A n c es) (hl : Like lo hi w w') : OwnP w' lo hi A n c es :=
  ⟨own_block11 h.row (fun k hk => hl.block k (h.row.lt k hk).1 (h.top k hk)), h.top, fun e he hp => ⟨own_block11 (h.inner e he hp).1 (fun k hk => hl.block k ((h.inner e he hp).1.lt k hk).1 ((h.inner e he hp).2 k hk)), (h.inner e he hp).2⟩, h.apart⟩
theorem OwnP.below {w w' : World} {lo hi n c : Nat} {A : Option Addr} {es : List PE} (h : OwnP w lo hi A n c es) (hb : Below w.heap.size w w') : OwnP w' lo hi A n c es :=
  ⟨own_block11 h.row (fun k hk => hb.block k (h.row.lt k hk).2), h.top, fun e he hp => ⟨own_block11 (h.inner e he hp).1 (fun k hk => hb.block k ((h.inner e he hp).1.lt k hk).2), (h.inner e he hp).2⟩, h.apart⟩
theorem OwnP.alloc {w : World} {lo hi n c : Nat} {A : Option Addr} {es : List PE} (h : OwnP w lo hi A n c es) (o : Obj) : OwnP (w.alloc o) lo hi A n c es := h.below ((Below.refl _ _).alloc (Nat.le_refl _) o)
theorem OwnP.drew {w : World} {lo hi n c : Nat} {A : Option Addr} {es : List PE} (h : OwnP w lo hi A n c es) : OwnP w.drew lo hi A n c es := ⟨h.row, h.top, h.inner, h.apart⟩
theorem OwnP.up {w : World} {lo hi hi' n c : Nat} {A : Option Addr} {es : List PE} (h : OwnP w lo hi A n c es) (hh : hi ≤ hi') : OwnP w lo hi' A n c es :=
  ⟨h.row, fun k hk => by have := h.top k hk; omega, fun e he hp => ⟨(h.inner e he hp).1, fun k hk => by have := (h.inner e he hp).2 k hk; omega⟩, h.apart⟩
theorem OwnP.down {w : World} {lo lo' hi n c : Nat} {A : Option Addr} {es : List PE} (h : OwnP w lo hi A n c es) (hh : lo' ≤ lo) : OwnP w lo' hi A n c es :=
  ⟨World.ownsRow.mono h.row hh, h.top, fun e he hp => ⟨World.ownsRow.mono (h.inner e he hp).1 hh, (h.inner e he hp).2⟩, h.apart⟩
theorem OwnP.here {w : World} {lo hi n c : Nat} {A : Option Addr} {es : List PE} (h : OwnP w lo hi A n c es) : OwnP w lo w.heap.size A n c es :=
  ⟨h.row, fun k hk => (h.row.lt k hk).2, fun e he hp => ⟨(h.inner e he hp).1, fun k hk => ((h.inner e he hp).1.lt k hk).2⟩, h.apart⟩
theorem Sp.own {w : World} {lo hi n c : Nat} {A : Option Addr} {es : List PE} (h : OwnP w lo hi A n c es) (hh : hi ≤ w.heap.size) : Sp lo hi (fun W => OwnP W lo hi A n c es) w := ⟨hh, fun W hW => h.like hW⟩
theorem nm_inner {w : World} {lo n c : Nat} {A : Option Addr} {xs : List Nm} (hn : n = xs.length) (h : 0 < n → w.ownsRow lo 100 5 (.slice A n c) n (nmV xs)) : NmAt w w.heap.size A n xs ∧ n ≤ c := by
  rcases Nat.eq_zero_or_pos n with h0 | hp
  · exact ⟨⟨hn, fun hp => absurd hp (by omega)⟩, by omega⟩
  · have h1 := h hp
    refine ⟨own_nm h1, ?_⟩
    rcases h1.2 with ⟨_, h0⟩ | ⟨g, cap, cur, hv, _, _, h3, _⟩
    · omega
    · have : c = cap := by injection hv
      omega
theorem own_pl {w : World} {lo hi n c : Nat} {A : Option Addr} {es : List PE} (h : OwnP w lo hi A n c es) : PlAt w w.heap.size A n (plsOf es) := by
  have hl := h.len
  refine ⟨by rw [plsOf_len]; exact hl.symm, fun hp => ?_⟩
  obtain ⟨g, cap, hv, _, hlt⟩ := World.ownsRow.form h.row hp
  have hA : A = some ⟨g, 0, none⟩ := by injection hv
  subst hA
  refine ⟨g, 0, rfl, hlt, fun k p hk => ?_⟩
  obtain ⟨e, he, rfl⟩ := plsOf_get hk
  have hkl := (List.getElem?_eq_some_iff.1 he).1
  have hc := plV_at es k e he
  have hm := List.mem_of_getElem? he
  obtain ⟨i1, i2⟩ := nm_inner rfl (fun hp => (h.inner e hm hp).1)
  rw [Nat.zero_add]
  exact ⟨e.a, e.d, (World.ownsRow.cellAt h.row (k * 5) (by omega)).trans hc.1, (World.ownsRow.cellAt h.row (k * 5 + 1) (by omega)).trans hc.2.1, (World.ownsRow.cellAt h.row (k * 5 + 2) (by omega)).trans hc.2.2.1, (World.ownsRow.cellAt h.row (k * 5 + 3) (by omega)).trans hc.2.2.2.1, (World.ownsRow.cellAt h.row (k * 5 + 4) (by omega)).trans hc.2.2.2.2, i1, i2⟩
theorem Sp.pl {w : World} {A : Option Addr} {n : Nat} {ps : List Pl} (h : PlAt w w.heap.size A n ps) : Sp 0 w.heap.size (fun W => PlAt W W.heap.size A n ps) w :=
  ⟨Nat.le_refl _, fun W hW => (h.below hW.below (Nat.le_refl _)).more hW.size⟩

theorem plV_set5 : ∀ (ys : List PE) (k : Nat) (q : PE), k < ys.length → (((((plV ys).set (k * 5) (.string q.p.c)).set (k * 5 + 1) (.int .i64 q.p.k)).set (k * 5 + 2) (.int .i64 q.p.f)).set (k * 5 + 3) (.int .i64 q.p.u)).set (k * 5 + 4) (.slice q.a q.p.ns.length q.d) = plV (ys.set k q)
  | [], k, q, h => by simp at h
  | y :: ys, 0, q, h => by show _ = plV (q :: ys); rw [plV_cons, plV_cons]; rfl
  | y :: ys, k + 1, q, h => by
    have ih := plV_set5 ys k q (by simpa using h)
    rw [List.set_cons_succ, plV_cons, plV_cons, ← ih, show (k + 1) * 5 = k * 5 + 1 + 1 + 1 + 1 + 1 by omega]
    rfl
/-- The names alone are stored anew. -/
theorem plV_setN : ∀ (ys : List PE) (k : Nat) (y q : PE), ys[k]? = some y → q.p.c = y.p.c → q.p.k = y.p.k → q.p.f = y.p.f → q.p.u = y.p.u → (plV ys).set (k * 5 + 4) (.slice q.a q.p.ns.length q.d) = plV (ys.set k q)
  | [], k, y, q, h, _, _, _, _ => by simp at h
  | z :: ys, 0, y, q, h, h1, h2, h3, h4 => by
    obtain rfl : z = y := by simpa using h
    show _ = plV (q :: ys); rw [plV_cons, plV_cons, h1, h2, h3, h4]; rfl
  | z :: ys, k + 1, y, q, h, h1, h2, h3, h4 => by
    have ih := plV_setN ys k y q (by simpa using h) h1 h2 h3 h4
    rw [List.set_cons_succ, plV_cons, plV_cons, ← ih, show (k + 1) * 5 = k * 5 + 1 + 1 + 1 + 1 + 1 by omega]
    rfl
/-- The last year alone is stored anew. -/
theorem plV_setU : ∀ (ys : List PE) (k : Nat) (y q : PE), ys[k]? = some y → q.p.c = y.p.c → q.p.k = y.p.k → q.p.f = y.p.f → q.a = y.a → q.d = y.d → q.p.ns = y.p.ns → (plV ys).set (k * 5 + 3) (.int .i64 q.p.u) = plV (ys.set k q)
  | [], k, y, q, h, _, _, _, _, _, _ => by simp at h
  | z :: ys, 0, y, q, h, h1, h2, h3, h4, h5, h6 => by
    obtain rfl : z = y := by simpa using h
    show _ = plV (q :: ys); rw [plV_cons, plV_cons, h1, h2, h3, h4, h5, h6]; rfl
  | z :: ys, k + 1, y, q, h, h1, h2, h3, h4, h5, h6 => by
    have ih := plV_setU ys k y q (by simpa using h) h1 h2 h3 h4 h5 h6
    rw [List.set_cons_succ, plV_cons, plV_cons, ← ih, show (k + 1) * 5 = k * 5 + 1 + 1 + 1 + 1 + 1 by omega]
    rfl
theorem slice_blk {A : Option Addr} {n c g : Nat} (h : (Value.slice A n c).ownBlock = some g) : ∃ a, A = some a ∧ a.block = g := by
  cases A with
  | none => cases h
  | some a => exact ⟨a, rfl, by simpa [Value.ownBlock] using h⟩
/-- An element is stored anew, its names in a row of one's own that no other element has. -/
theorem OwnP.set {w w' : World} {lo hi g n c k : Nat} {es : List PE} {e : PE} (h : OwnP w lo hi (some ⟨g, 0, none⟩) n c es)
    (hin : 0 < e.p.ns.length → w.ownsRow lo 100 5 (.slice e.a e.p.ns.length e.d) e.p.ns.length (nmV e.p.ns) ∧ ∀ b, (Value.slice e.a e.p.ns.length e.d).ownBlock = some b → b < hi)
    (hap : ∀ (j : Nat) x, j ≠ k → es[j]? = some x → 0 < x.p.ns.length → 0 < e.p.ns.length → x.a ≠ e.a)
    (hrow : w'.ownsRow lo 29 5 (.slice (some ⟨g, 0, none⟩) n c) n (plV (es.set k e))) (hg : w.grownBy w' (some g)) : OwnP w' lo hi (some ⟨g, 0, none⟩) n c (es.set k e) := by
  have key : ∀ (x : PE), w.ownsRow lo 100 5 (.slice x.a x.p.ns.length x.d) x.p.ns.length (nmV x.p.ns) → w'.ownsRow lo 100 5 (.slice x.a x.p.ns.length x.d) x.p.ns.length (nmV x.p.ns) :=
    fun x hx => World.ownsRow.kept hx hg (rows_apart11 (by decide) hx h.row)
  refine ⟨hrow, h.top, fun x hx hp => ?_, fun i j x y hij hi hj hp hq => ?_⟩
  · rcases List.mem_or_eq_of_mem_set hx with hx | rfl
    · exact ⟨key x (h.inner x hx hp).1, (h.inner x hx hp).2⟩
    · exact ⟨key _ (hin hp).1, (hin hp).2⟩
  · rw [List.getElem?_set] at hi hj
    by_cases h1 : k = i
    · have h2 : ¬ k = j := by omega
      rw [if_pos h1] at hi
      rw [if_neg h2] at hj
      split at hi
      · obtain rfl := Option.some.inj hi
        exact fun e0 => hap j y (by omega) hj hq hp e0.symm
      · cases hi
    · rw [if_neg h1] at hi
      by_cases h2 : k = j
      · rw [if_pos h2] at hj
        split at hj
        · obtain rfl := Option.some.inj hj
          exact hap i x (by omega) hi hp hq
        · cases hj
      · rw [if_neg h2] at hj
        exact h.apart i j x y hij hi hj hp hq
/-- An element is written anew in place, its names in the row that they had. -/
theorem OwnP.remark {w w' : World} {lo hi g n c k : Nat} {es : List PE} {e e' : PE} (h : OwnP w lo hi (some ⟨g, 0, none⟩) n c es) (hk : es[k]? = some e) (ha : e'.a = e.a) (hd : e'.d = e.d) (hl : e'.p.ns.length = e.p.ns.length)
    (hrow : w'.ownsRow lo 29 5 (.slice (some ⟨g, 0, none⟩) n c) n (plV (es.set k e')))
    (hin : 0 < e'.p.ns.length → w'.ownsRow lo 100 5 (.slice e'.a e'.p.ns.length e'.d) e'.p.ns.length (nmV e'.p.ns))
    (hblk : ∀ b, b < w.heap.size → b ≠ g → (0 < e.p.ns.length → (Value.slice e.a e.p.ns.length e.d).ownBlock ≠ some b) → w'.heap[b]? = w.heap[b]?) : OwnP w' lo hi (some ⟨g, 0, none⟩) n c (es.set k e') := by
  have hkl := (List.getElem?_eq_some_iff.1 hk).1
  have he := List.mem_of_getElem? hk
  refine ⟨hrow, h.top, fun x hx hp => ?_, fun i j x y hij hi hj hp hq => ?_⟩
  · obtain ⟨i, hi⟩ := List.mem_iff_getElem?.1 hx
    rw [List.getElem?_set] at hi
    by_cases h1 : k = i
    · rw [if_pos h1, if_pos (by omega)] at hi
      obtain rfl := Option.some.inj hi
      refine ⟨hin hp, fun b hb => (h.inner e he (by omega)).2 b ?_⟩
      rw [← ha, ← hd, ← hl]; exact hb
    · rw [if_neg h1] at hi
      have hm := List.mem_of_getElem? hi
      obtain ⟨i1, i2⟩ := h.inner x hm hp
      refine ⟨own_block11 i1 (fun b hb => hblk b (i1.lt b hb).2 ?_ (fun hpe => ?_)), i2⟩
      · rintro rfl
        rcases rows_apart11 (by decide) i1 h.row with hq | hq
        · rw [hq] at hb; cases hb
        · exact hq hb
      · intro hc
        have hne := h.apart i k x e (by omega) hi hk hp hpe
        obtain ⟨g1, c1, hv1, _, _⟩ := World.ownsRow.form i1 hp
        obtain ⟨g2, c2, hv2, _, _⟩ := World.ownsRow.form (h.inner e he hpe).1 hpe
        rw [hv1] at hb
        rw [hv2] at hc
        simp [Value.ownBlock] at hb hc
        apply hne
        injection hv1 with e1
        injection hv2 with e2
        rw [e1, e2, hb, hc]
  · have back : ∀ (i : Nat) z, (es.set k e')[i]? = some z → ∃ z', es[i]? = some z' ∧ z.a = z'.a ∧ z.p.ns.length = z'.p.ns.length := by
      intro i z hz
      rw [List.getElem?_set] at hz
      by_cases h1 : k = i
      · rw [if_pos h1, if_pos (by omega)] at hz
        obtain rfl := Option.some.inj hz
        exact ⟨e, by rw [← h1]; exact hk, ha, hl⟩
      · rw [if_neg h1] at hz
        exact ⟨z, hz, rfl, rfl⟩
    obtain ⟨x', b1, b2, b3⟩ := back i x hi
    obtain ⟨y', d1, d2, d3⟩ := back j y hj
    rw [b2, d2]
    exact h.apart i j x' y' hij b1 d1 (by omega) (by omega)
/-- An element more at the end. -/
theorem OwnP.snoc {w w' : World} {lo hi hi' n c n' c' : Nat} {A A' : Option Addr} {es : List PE} {e : PE} (h : OwnP w lo hi A n c es)
    (hin : 0 < e.p.ns.length → w.ownsRow lo 100 5 (.slice e.a e.p.ns.length e.d) e.p.ns.length (nmV e.p.ns) ∧ ∀ b, (Value.slice e.a e.p.ns.length e.d).ownBlock = some b → b < hi')
    (hap : ∀ x ∈ es, 0 < x.p.ns.length → 0 < e.p.ns.length → x.a ≠ e.a)
    (hrow : w'.ownsRow lo 29 5 (.slice A' n' c') n' (plV (es ++ [e]))) (htop : ∀ k, (Value.slice A' n' c').ownBlock = some k → k < hi') (hh : hi ≤ hi') (hg : w.grownBy w' (Value.slice A n c).ownBlock) : OwnP w' lo hi' A' n' c' (es ++ [e]) := by
  have key : ∀ (x : PE), w.ownsRow lo 100 5 (.slice x.a x.p.ns.length x.d) x.p.ns.length (nmV x.p.ns) → w'.ownsRow lo 100 5 (.slice x.a x.p.ns.length x.d) x.p.ns.length (nmV x.p.ns) :=
    fun x hx => World.ownsRow.kept hx hg (rows_apart11 (by decide) hx h.row)
  refine ⟨hrow, htop, fun x hx hp => ?_, fun i j x y hij hi hj hp hq => ?_⟩
  · rw [List.mem_append, List.mem_singleton] at hx
    rcases hx with hx | rfl
    · exact ⟨key x (h.inner x hx hp).1, fun b hb => by have := (h.inner x hx hp).2 b hb; omega⟩
    · exact ⟨key _ (hin hp).1, (hin hp).2⟩
  · have hl : ∀ (i : Nat) z, (es ++ [e])[i]? = some z → (i < es.length ∧ es[i]? = some z) ∨ (i = es.length ∧ z = e) := by
      intro i z hz
      by_cases hlt : i < es.length
      · rw [List.getElem?_append_left hlt] at hz; exact .inl ⟨hlt, hz⟩
      · have := (List.getElem?_eq_some_iff.1 hz).1
        simp at this
        obtain rfl : i = es.length := by omega
        simp at hz
        exact .inr ⟨rfl, hz.symm⟩
    rcases hl i x hi with ⟨_, a1⟩ | ⟨a1, rfl⟩ <;> rcases hl j y hj with ⟨_, b1⟩ | ⟨b1, rfl⟩
    · exact h.apart i j x y hij a1 b1 hp hq
    · exact hap x (List.mem_of_getElem? a1) hp hq
    · exact fun e0 => hap y (List.mem_of_getElem? b1) hq hp e0.symm
    · omega
/-- A row made anew has no address that an elder row has. -/
theorem fresh_a {w : World} {lo n m c : Nat} {A : Option Addr} {xs : List Nm} {g o : Nat} (h : w.ownsRow lo 100 5 (.slice A m c) n (nmV xs)) (hp : 0 < n) (hg : w.heap.size ≤ g) : A ≠ some ⟨g, o, none⟩ := by
  obtain ⟨g1, c1, hv, _, hl⟩ := World.ownsRow.form h hp
  intro e
  subst e
  injection hv with e1
  injection e1 with e1
  injection e1 with e1
  omega
end
end Go.Proofs.YtglmibmjbignbaaGreatDoor
