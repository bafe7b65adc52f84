/-
  Rows of places of one's own: the outer row and the rows of names; what storing, marking and growing leave of them.
-/
import Derived.Test.YtglmibmjbignbaaGreatDoorMz8
import Derived.Test.YtglmibmjbignbaaGreatDoorPlArgs
import Derived.Test.YtglmibmjbignbaaGreatDoorMz1
import Derived.Test.YtglmibmjbignbaaGreatDoorNmMark
import Derived.Deep.Onto
import Derived.OwnWalk
import Derived.Laws.OwnMore
import Derived.Below
import Derived.WalkKit
namespace Go.Proofs.YtglmibmjbignbaaGreatDoor
section
set_option linter.unusedVariables false
open Go.RowKit

/-- Rows of different types share no block. -/
theorem rows_apart11 {w : World} {B B' s s' n n' : Nat} {T T' : TypeId} {v v' : Value} {xs xs' : List Value} (hT : T ≠ T') (h : w.ownsRow B T s v n xs) (h' : w.ownsRow B' T' s' v' n' xs') :
    v.ownBlock = none ∨ v.ownBlock ≠ v'.ownBlock := by
  rcases h.2 with ⟨rfl, _⟩ | ⟨g, cap, cur, rfl, _, h3, _⟩
  · exact .inl rfl
  · right
    intro e
    rcases h'.2 with ⟨rfl, _⟩ | ⟨g', cap', cur', rfl, _, h3', _⟩
    · cases e
    · simp [Value.ownBlock] at e
      subst e
      rw [h3] at h3'
      simp at h3'
      exact hT h3'.2
theorem own_any11 {w : World} {B B' s n : Nat} {T : TypeId} {v : Value} {xs : List Value} (h : w.ownsRow B T s v n xs) (hb : ∀ k, v.ownBlock = some k → B' ≤ k) : w.ownsRow B' T s v n xs :=
  ⟨h.1, by
    rcases h.2 with h2 | ⟨g, cap, cur, h1, h2, h3⟩
    · exact .inl h2
    · exact .inr ⟨g, cap, cur, h1, hb g (by rw [h1]; rfl), h3⟩⟩
theorem own_block11 {w w' : World} {B s n : Nat} {T : TypeId} {v : Value} {xs : List Value} (h : w.ownsRow B T s v n xs) (hb : ∀ k, v.ownBlock = some k → w'.heap[k]? = w.heap[k]?) : w'.ownsRow B T s v n xs :=
  ⟨h.1, by
    rcases h.2 with h2 | ⟨g, cap, cur, h1, h2, h3, h4⟩
    · exact .inl h2
    · exact .inr ⟨g, cap, cur, h1, h2, (hb g (by rw [h1]; rfl)).trans h3, h4⟩⟩

/-- From w to w' no block has changed but those from lo on below hi, and new ones. -/
structure FrameI (lo hi : Nat) (w w' : World) : Prop where
  os : w'.os = w.os
  tape : w'.tape = w.tape
  output : w'.output = w.output
  size : w.heap.size ≤ w'.heap.size
  block : ∀ k, k < w.heap.size → (k < lo ∨ hi ≤ k) → w'.heap[k]? = w.heap[k]?
theorem FrameI.refl (lo hi : Nat) (w : World) : FrameI lo hi w w := ⟨rfl, rfl, rfl, Nat.le_refl _, fun _ _ _ => rfl⟩
theorem FrameI.trans {lo hi : Nat} {a b c : World} (h : FrameI lo hi a b) (k : FrameI lo hi b c) : FrameI lo hi a c :=
  ⟨k.os.trans h.os, k.tape.trans h.tape, k.output.trans h.output, Nat.le_trans h.size k.size, fun x hx hn => (k.block x (Nat.lt_of_lt_of_le hx h.size) hn).trans (h.block x hx hn)⟩
theorem FrameI.of_below {lo hi : Nat} {w w' : World} (h : Below w.heap.size w w') : FrameI lo hi w w' := ⟨h.os, h.tape, h.output, h.size, fun b hb _ => h.block b hb⟩
theorem FrameI.of_grown {lo hi : Nat} {w w' : World} {r : Option Nat} (h : w.grownBy w' r) (hr : ∀ x, r = some x → lo ≤ x ∧ x < hi) : FrameI lo hi w w' :=
  ⟨h.os, h.tape, h.output, h.size, fun b hb hn => h.block b hb (fun e => by have := hr b e.symm; omega)⟩
theorem FrameI.setCell {lo hi : Nat} (w : World) {a : Addr} (h1 : lo ≤ a.block) (h2 : a.block < hi) (v : Value) : FrameI lo hi w (w.setCell a v) :=
  ⟨rfl, rfl, rfl, by simp, fun b _ hn => Below.heap_setCell _ _ _ _ (by rintro rfl; omega)⟩
theorem FrameI.below {lo hi B : Nat} {a w w' : World} (h : Below B a w) (hf : FrameI lo hi w w') (hS : B ≤ lo) (hB : B ≤ w.heap.size) : Below B a w' :=
  ⟨hf.os.trans h.os, hf.tape.trans h.tape, hf.output.trans h.output, Nat.le_trans h.size hf.size, fun k hk => (hf.block k (by omega) (.inl (by omega))).trans (h.block k hk)⟩
theorem FrameI.wide {lo hi lo' hi' : Nat} {w w' : World} (h : FrameI lo hi w w') (h1 : lo' ≤ lo) (h2 : hi ≤ hi') : FrameI lo' hi' w w' :=
  ⟨h.os, h.tape, h.output, h.size, fun k hk hn => h.block k hk (by omega)⟩
theorem Sp.markI {lo hi a b : Nat} {P : World → Prop} {w w' : World} (h : Sp lo hi P w) (hf : FrameI a b w w') (hd : b ≤ lo ∨ hi ≤ a) : Sp lo hi P w' :=
  h.like ⟨hf.os, hf.tape, hf.output, hf.size, fun k h1 h2 => hf.block k (Nat.lt_of_lt_of_le h2 h.1) (by omega)⟩

/-- A row of places, and rows of names, all of one's own, all from block lo on below hi. -/
structure OwnP (w : World) (lo hi : Nat) (A : Option Addr) (n c : Nat) (es : List PE) : Prop where
  row : w.ownsRow lo 29 5 (.slice A n c) n (plV es)
  top : ∀ k, (Value.slice A n c).ownBlock = some k → k < hi
  inner : ∀ e ∈ es, 0 < e.p.ns.length → w.ownsRow lo 100 5 (.slice e.a e.p.ns.length e.d) e.p.ns.length (nmV e.p.ns) ∧ ∀ k, (Value.slice e.a e.p.ns.length e.d).ownBlock = some k → k < hi
  apart : ∀ (i j : Nat) x y, i ≠ j → es[i]? = some x → es[j]? = some y → 0 < x.p.ns.length → 0 < y.p.ns.length → x.a ≠ y.a
theorem OwnP.len {w : World} {lo hi n c : Nat} {A : Option Addr} {es : List PE} (h : OwnP w lo hi A n c es) : es.length = n := by have := h.row.1; rw [plV_len] at this; omega
theorem OwnP.like {w w' : World} {lo hi n c : Nat} {A : Option Addr} {es : List PE} (h : OwnP w lo hi A n c es) (hl : Like lo hi w w') : OwnP w' lo hi A n c es :=
  ⟨own_block11 h.row (fun k hk => hl.block k (h.row.lt k hk).1 (h.top k hk)), h.top, fun e he hp => ⟨own_block11 (h.inner e he hp).1 (fun k hk => hl.block k ((h.inner e he hp).1.lt k hk).1 ((h.inner e he hp).2 k hk)), (h.inner e he hp).2⟩, h.apart⟩
theorem OwnP.below {w w' : World} {lo hi n c : Nat} {A : Option Addr} {es : List PE} (h : OwnP w lo hi A n c es) (hb : Below w.heap.size w w') : OwnP w' lo hi A n c es :=
  ⟨own_block11 h.row (fun k hk => hb.block k (h.row.lt k hk).2), h.top, fun e he hp => ⟨own_block11 (h.inner e he hp).1 (fun k hk => hb.block k ((h.inner e he hp).1.lt k hk).2), (h.inner e he hp).2⟩, h.apart⟩
theorem OwnP.alloc {w : World} {lo hi n c : Nat} {A : Option Addr} {es : List PE} (h : OwnP w lo hi A n c es) (o : Obj) : OwnP (w.alloc o) lo hi A n c es := h.below ((Below.refl _ _).alloc (Nat.le_refl _) o)
theorem OwnP.drew {w : World} {lo hi n c : Nat} {A : Option Addr} {es : List PE} (h : OwnP w lo hi A n c es) : OwnP w.drew lo hi A n c es := ⟨h.row, h.top, h.inner, h.apart⟩
theorem OwnP.up {w : World} {lo hi hi' n c : Nat} {A : Option Addr} {es : List PE} (h : OwnP w lo hi A n c es) (hh : hi ≤ hi') : OwnP w lo hi' A n c es :=
  ⟨h.row, fun k hk => by have := h.top k hk; omega, fun e he hp => ⟨(h.inner e he hp).1, fun k hk => by have := (h.inner e he hp).2 k hk; omega⟩, h.apart⟩
theorem OwnP.down {w : World} {lo lo' hi n c : Nat} {A : Option Addr} {es : List PE} (h : OwnP w lo hi A n c es) (hh : lo' ≤ lo) : OwnP w lo' hi A n c es :=
  ⟨World.ownsRow.mono h.row hh, h.top, fun e he hp => ⟨World.ownsRow.mono (h.inner e he hp).1 hh, (h.inner e he hp).2⟩, h.apart⟩
theorem OwnP.here {w : World} {lo hi n c : Nat} {A : Option Addr} {es : List PE} (h : OwnP w lo hi A n c es) : OwnP w lo w.heap.size A n c es :=
  ⟨h.row, fun k hk => (h.row.lt k hk).2, fun e he hp => ⟨(h.inner e he hp).1, fun k hk => ((h.inner e he hp).1.lt k hk).2⟩, h.apart⟩
theorem Sp.own {w : World} {lo hi n c : Nat} {A : Option Addr} {es : List PE} (h : OwnP w lo hi A n c es) (hh : hi ≤ w.heap.size) : Sp lo hi (fun W => OwnP W lo hi A n c es) w := ⟨hh, fun W hW => h.like hW⟩
theorem nm_inner {w : World} {lo n c : Nat} {A : Option Addr} {xs : List Nm} (hn : n = xs.length) (h : 0 < n → w.ownsRow lo 100 5 (.slice A n c) n (nmV xs)) : NmAt w w.heap.size A n xs ∧ n ≤ c := by
  rcases Nat.eq_zero_or_pos n with h0 | hp
  · exact ⟨⟨hn, fun hp => absurd hp (by omega)⟩, by omega⟩
  · have h1 := h hp
    refine ⟨own_nm h1, ?_⟩
    rcases h1.2 with ⟨_, h0⟩ | ⟨g, cap, cur, hv, _, _, h3, _⟩
    · omega
    · have : c = cap := by injection hv
      omega
theorem own_pl {w : World} {lo hi n c : Nat} {A : Option Addr} {es : List PE} (h : OwnP w lo hi A n c es) : PlAt w w.heap.size A n (plsOf es) := by
  have hl := h.len
  refine ⟨by rw [plsOf_len]; exact hl.symm, fun hp => ?_⟩
  obtain ⟨g, cap, hv, _, hlt⟩ := World.ownsRow.form h.row hp
  have hA : A = some ⟨g, 0, none⟩ := by injection hv
  subst hA
  refine ⟨g, 0, rfl, hlt, fun k p hk => ?_⟩
  obtain ⟨e, he, rfl⟩ := plsOf_get hk
  have hkl := (List.getElem?_eq_some_iff.1 he).1
  have hc := plV_at es k e he
  have hm := List.mem_of_getElem? he
  obtain ⟨i1, i2⟩ := nm_inner rfl (fun hp => (h.inner e hm hp).1)
  rw [Nat.zero_add]
  exact ⟨e.a, e.d, (World.ownsRow.cellAt h.row (k * 5) (by omega)).trans hc.1, (World.ownsRow.cellAt h.row (k * 5 + 1) (by omega)).trans hc.2.1, (World.ownsRow.cellAt h.row (k * 5 + 2) (by omega)).trans hc.2.2.1, (World.ownsRow.cellAt h.row (k * 5 + 3) (by omega)).trans hc.2.2.2.1, (World.ownsRow.cellAt h.row (k * 5 + 4) (by omega)).trans hc.2.2.2.2, i1, i2⟩
theorem Sp.pl {w : World} {A : Option Addr} {n : Nat} {ps : List Pl} (h : PlAt w w.heap.size A n ps) : Sp 0 w.heap.size (fun W => PlAt W W.heap.size A n ps) w :=
  ⟨Nat.le_refl _, fun W hW => (h.below hW.below (Nat.le_refl _)).more hW.size⟩

theorem plV_set5 : ∀ (ys : List PE) (k : Nat) (q : PE), k < ys.length → (((((plV ys).set (k * 5) (.string q.p.c)).set (k * 5 + 1) (.int .i64 q.p.k)).set (k * 5 + 2) (.int .i64 q.p.f)).set (k * 5 + 3) (.int .i64 q.p.u)).set (k * 5 + 4) (.slice q.a q.p.ns.length q.d) = plV (ys.set k q)
  | [], k, q, h => by simp at h
  | y :: ys, 0, q, h => by show _ = plV (q :: ys); rw [plV_cons, plV_cons]; rfl
  | y :: ys, k + 1, q, h => by
    have ih := plV_set5 ys k q (by simpa using h)
    rw [List.set_cons_succ, plV_cons, plV_cons, ← ih, show (k + 1) * 5 = k * 5 + 1 + 1 + 1 + 1 + 1 by omega]
    rfl
/-- The names alone are stored anew. -/
theorem plV_setN : ∀ (ys : List PE) (k : Nat) (y q : PE), ys[k]? = some y → q.p.c = y.p.c → q.p.k = y.p.k → q.p.f = y.p.f → q.p.u = y.p.u → (plV ys).set (k * 5 + 4) (.slice q.a q.p.ns.length q.d) = plV (ys.set k q)
  | [], k, y, q, h, _, _, _, _ => by simp at h
  | z :: ys, 0, y, q, h, h1, h2, h3, h4 => by
    obtain rfl : z = y := by simpa using h
    show _ = plV (q :: ys); rw [plV_cons, plV_cons, h1, h2, h3, h4]; rfl
  | z :: ys, k + 1, y, q, h, h1, h2, h3, h4 => by
    have ih := plV_setN ys k y q (by simpa using h) h1 h2 h3 h4
    rw [List.set_cons_succ, plV_cons, plV_cons, ← ih, show (k + 1) * 5 = k * 5 + 1 + 1 + 1 + 1 + 1 by omega]
    rfl
/-- The last year alone is stored anew. -/
theorem plV_setU : ∀ (ys : List PE) (k : Nat) (y q : PE), ys[k]? = some y → q.p.c = y.p.c → q.p.k = y.p.k → q.p.f = y.p.f → q.a = y.a → q.d = y.d → q.p.ns = y.p.ns → (plV ys).set (k * 5 + 3) (.int .i64 q.p.u) = plV (ys.set k q)
  | [], k, y, q, h, _, _, _, _, _, _ => by simp at h
  | z :: ys, 0, y, q, h, h1, h2, h3, h4, h5, h6 => by
    obtain rfl : z = y := by simpa using h
    show _ = plV (q :: ys); rw [plV_cons, plV_cons, h1, h2, h3, h4, h5, h6]; rfl
  | z :: ys, k + 1, y, q, h, h1, h2, h3, h4, h5, h6 => by
    have ih := plV_setU ys k y q (by simpa using h) h1 h2 h3 h4 h5 h6
    rw [List.set_cons_succ, plV_cons, plV_cons, ← ih, show (k + 1) * 5 = k * 5 + 1 + 1 + 1 + 1 + 1 by omega]
    rfl
theorem slice_blk {A : Option Addr} {n c g : Nat} (h : (Value.slice A n c).ownBlock = some g) : ∃ a, A = some a ∧ a.block = g := by
  cases A with
  | none => cases h
  | some a => exact ⟨a, rfl, by simpa [Value.ownBlock] using h⟩
/-- An element is stored anew, its names in a row of one's own that no other element has. -/
theorem OwnP.set {w w' : World} {lo hi g n c k : Nat} {es : List PE} {e : PE} (h : OwnP w lo hi (some ⟨g, 0, none⟩) n c es)
    (hin : 0 < e.p.ns.length → w.ownsRow lo 100 5 (.slice e.a e.p.ns.length e.d) e.p.ns.length (nmV e.p.ns) ∧ ∀ b, (Value.slice e.a e.p.ns.length e.d).ownBlock = some b → b < hi)
    (hap : ∀ (j : Nat) x, j ≠ k → es[j]? = some x → 0 < x.p.ns.length → 0 < e.p.ns.length → x.a ≠ e.a)
    (hrow : w'.ownsRow lo 29 5 (.slice (some ⟨g, 0, none⟩) n c) n (plV (es.set k e))) (hg : w.grownBy w' (some g)) : OwnP w' lo hi (some ⟨g, 0, none⟩) n c (es.set k e) := by
  have key : ∀ (x : PE), w.ownsRow lo 100 5 (.slice x.a x.p.ns.length x.d) x.p.ns.length (nmV x.p.ns) → w'.ownsRow lo 100 5 (.slice x.a x.p.ns.length x.d) x.p.ns.length (nmV x.p.ns) :=
    fun x hx => World.ownsRow.kept hx hg (rows_apart11 (by decide) hx h.row)
  refine ⟨hrow, h.top, fun x hx hp => ?_, fun i j x y hij hi hj hp hq => ?_⟩
  · rcases List.mem_or_eq_of_mem_set hx with hx | rfl
    · exact ⟨key x (h.inner x hx hp).1, (h.inner x hx hp).2⟩
    · exact ⟨key _ (hin hp).1, (hin hp).2⟩
  · rw [List.getElem?_set] at hi hj
    by_cases h1 : k = i
    · have h2 : ¬ k = j := by omega
      rw [if_pos h1] at hi
      rw [if_neg h2] at hj
      split at hi
      · obtain rfl := Option.some.inj hi
        exact fun e0 => hap j y (by omega) hj hq hp e0.symm
      · cases hi
    · rw [if_neg h1] at hi
      by_cases h2 : k = j
      · rw [if_pos h2] at hj
        split at hj
        · obtain rfl := Option.some.inj hj
          exact hap i x (by omega) hi hp hq
        · cases hj
      · rw [if_neg h2] at hj
        exact h.apart i j x y hij hi hj hp hq
/-- An element is written anew in place, its names in the row that they had. -/
theorem OwnP.remark {w w' : World} {lo hi g n c k : Nat} {es : List PE} {e e' : PE} (h : OwnP w lo hi (some ⟨g, 0, none⟩) n c es) (hk : es[k]? = some e) (ha : e'.a = e.a) (hd : e'.d = e.d) (hl : e'.p.ns.length = e.p.ns.length)
    (hrow : w'.ownsRow lo 29 5 (.slice (some ⟨g, 0, none⟩) n c) n (plV (es.set k e')))
    (hin : 0 < e'.p.ns.length → w'.ownsRow lo 100 5 (.slice e'.a e'.p.ns.length e'.d) e'.p.ns.length (nmV e'.p.ns))
    (hblk : ∀ b, b < w.heap.size → b ≠ g → (0 < e.p.ns.length → (Value.slice e.a e.p.ns.length e.d).ownBlock ≠ some b) → w'.heap[b]? = w.heap[b]?) : OwnP w' lo hi (some ⟨g, 0, none⟩) n c (es.set k e') := by
  have hkl := (List.getElem?_eq_some_iff.1 hk).1
  have he := List.mem_of_getElem? hk
  refine ⟨hrow, h.top, fun x hx hp => ?_, fun i j x y hij hi hj hp hq => ?_⟩
  · obtain ⟨i, hi⟩ := List.mem_iff_getElem?.1 hx
    rw [List.getElem?_set] at hi
    by_cases h1 : k = i
    · rw [if_pos h1, if_pos (by omega)] at hi
      obtain rfl := Option.some.inj hi
      refine ⟨hin hp, fun b hb => (h.inner e he (by omega)).2 b ?_⟩
      rw [← ha, ← hd, ← hl]; exact hb
    · rw [if_neg h1] at hi
      have hm := List.mem_of_getElem? hi
      obtain ⟨i1, i2⟩ := h.inner x hm hp
      refine ⟨own_block11 i1 (fun b hb => hblk b (i1.lt b hb).2 ?_ (fun hpe => ?_)), i2⟩
      · rintro rfl
        rcases rows_apart11 (by decide) i1 h.row with hq | hq
        · rw [hq] at hb; cases hb
        · exact hq hb
      · intro hc
        have hne := h.apart i k x e (by omega) hi hk hp hpe
        obtain ⟨g1, c1, hv1, _, _⟩ := World.ownsRow.form i1 hp
        obtain ⟨g2, c2, hv2, _, _⟩ := World.ownsRow.form (h.inner e he hpe).1 hpe
        rw [hv1] at hb
        rw [hv2] at hc
        simp [Value.ownBlock] at hb hc
        apply hne
        injection hv1 with e1
        injection hv2 with e2
        rw [e1, e2, hb, hc]
  · have back : ∀ (i : Nat) z, (es.set k e')[i]? = some z → ∃ z', es[i]? = some z' ∧ z.a = z'.a ∧ z.p.ns.length = z'.p.ns.length := by
      intro i z hz
      rw [List.getElem?_set] at hz
      by_cases h1 : k = i
      · rw [if_pos h1, if_pos (by omega)] at hz
        obtain rfl := Option.some.inj hz
        exact ⟨e, by rw [← h1]; exact hk, ha, hl⟩
      · rw [if_neg h1] at hz
        exact ⟨z, hz, rfl, rfl⟩
    obtain ⟨x', b1, b2, b3⟩ := back i x hi
    obtain ⟨y', d1, d2, d3⟩ := back j y hj
    rw [b2, d2]
    exact h.apart i j x' y' hij b1 d1 (by omega) (by omega)
/-- An element more at the end. -/
theorem OwnP.snoc {w w' : World} {lo hi hi' n c n' c' : Nat} {A A' : Option Addr} {es : List PE} {e : PE} (h : OwnP w lo hi A n c es)
    (hin : 0 < e.p.ns.length → w.ownsRow lo 100 5 (.slice e.a e.p.ns.length e.d) e.p.ns.length (nmV e.p.ns) ∧ ∀ b, (Value.slice e.a e.p.ns.length e.d).ownBlock = some b → b < hi')
    (hap : ∀ x ∈ es, 0 < x.p.ns.length → 0 < e.p.ns.length → x.a ≠ e.a)
    (hrow : w'.ownsRow lo 29 5 (.slice A' n' c') n' (plV (es ++ [e]))) (htop : ∀ k, (Value.slice A' n' c').ownBlock = some k → k < hi') (hh : hi ≤ hi') (hg : w.grownBy w' (Value.slice A n c).ownBlock) : OwnP w' lo hi' A' n' c' (es ++ [e]) := by
  have key : ∀ (x : PE), w.ownsRow lo 100 5 (.slice x.a x.p.ns.length x.d) x.p.ns.length (nmV x.p.ns) → w'.ownsRow lo 100 5 (.slice x.a x.p.ns.length x.d) x.p.ns.length (nmV x.p.ns) :=
    fun x hx => World.ownsRow.kept hx hg (rows_apart11 (by decide) hx h.row)
  refine ⟨hrow, htop, fun x hx hp => ?_, fun i j x y hij hi hj hp hq => ?_⟩
  · rw [List.mem_append, List.mem_singleton] at hx
    rcases hx with hx | rfl
    · exact ⟨key x (h.inner x hx hp).1, fun b hb => by have := (h.inner x hx hp).2 b hb; omega⟩
    · exact ⟨key _ (hin hp).1, (hin hp).2⟩
  · have hl : ∀ (i : Nat) z, (es ++ [e])[i]? = some z → (i < es.length ∧ es[i]? = some z) ∨ (i = es.length ∧ z = e) := by
      intro i z hz
      by_cases hlt : i < es.length
      · rw [List.getElem?_append_left hlt] at hz; exact .inl ⟨hlt, hz⟩
      · have := (List.getElem?_eq_some_iff.1 hz).1
        simp at this
        obtain rfl : i = es.length := by omega
        simp at hz
        exact .inr ⟨rfl, hz.symm⟩
    rcases hl i x hi with ⟨_, a1⟩ | ⟨a1, rfl⟩ <;> rcases hl j y hj with ⟨_, b1⟩ | ⟨b1, rfl⟩
    · exact h.apart i j x y hij a1 b1 hp hq
    · exact hap x (List.mem_of_getElem? a1) hp hq
    · exact fun e0 => hap y (List.mem_of_getElem? b1) hq hp e0.symm
    · omega
/-- A row made anew has no address that an elder row has. -/
theorem fresh_a {w : World} {lo n m c : Nat} {A : Option Addr} {xs : List Nm} {g o : Nat} (h : w.ownsRow lo 100 5 (.slice A m c) n (nmV xs)) (hp : 0 < n) (hg : w.heap.size ≤ g) : A ≠ some ⟨g, o, none⟩ := by
  obtain ⟨g1, c1, hv, _, hl⟩ := World.ownsRow.form h hp
  intro e
  subst e
  injection hv with e1
  injection e1 with e1
  injection e1 with e1
  omega
end
section
set_option linter.unusedVariables false
open Go.RowKit

/-- Block b holds the cells l, none of them frozen. -/
def Bx (w : World) (b : Nat) (l : List Value) : Prop := b < w.heap.size ∧ ∀ (i : Nat) (v : Value), l[i]? = some v → w.cell? ⟨b, i, none⟩ = some v ∧ w.frozen? ⟨b, i, none⟩ = false
theorem Bx.new (w : World) (cs : Array Value) (t : TypeId) : Bx (w.alloc (.cells cs t)) w.heap.size cs.toList := by
  refine ⟨by simp, fun i v h => ⟨?_, World.frozen?_alloc_new _ _ _ _⟩⟩
  rw [World.cell?_alloc_at _ _ _ _ rfl]; simpa using h
theorem Bx.block {w w' : World} {b : Nat} {l : List Value} (h : Bx w b l) (hs : b < w'.heap.size) (hh : w'.heap[b]? = w.heap[b]?) : Bx w' b l :=
  ⟨hs, fun i v hv => ⟨(World.cell?_of_block (w := w) (a := ⟨b, i, none⟩) hh).trans (h.2 i v hv).1, (World.frozen?_of_block (w := w) (a := ⟨b, i, none⟩) hh).trans (h.2 i v hv).2⟩⟩
theorem Bx.below {w w' : World} {b C : Nat} {l : List Value} (h : Bx w b l) (hb : Below C w w') (hC : b < C) : Bx w' b l := h.block (Nat.lt_of_lt_of_le h.1 hb.size) (hb.block b hC)
theorem Bx.next {w w' : World} {b : Nat} {l : List Value} (h : Bx w b l) (hb : Below w.heap.size w w') : Bx w' b l := h.below hb h.1
theorem Bx.alloc {w : World} {b : Nat} {l : List Value} (h : Bx w b l) (o : Obj) : Bx (w.alloc o) b l := h.next ((Below.refl w.heap.size w).alloc (Nat.le_refl _) o)
theorem Bx.drew {w : World} {b : Nat} {l : List Value} (h : Bx w b l) : Bx w.drew b l := h
theorem Bx.other {w : World} {b g i : Nat} {l : List Value} {u : Value} (h : Bx w b l) (hne : b ≠ g) : Bx (w.setCell ⟨g, i, none⟩ u) b l :=
  h.block (by simpa using h.1) (Below.heap_setCell _ _ _ _ hne)
theorem Bx.set {w : World} {b : Nat} {l : List Value} (h : Bx w b l) (i : Nat) (u : Value) (hi : i < l.length) : Bx (w.setCell ⟨b, i, none⟩ u) b (l.set i u) := by
  refine ⟨by simpa using h.1, fun k v hv => ⟨?_, ?_⟩⟩
  · by_cases hk : i = k
    · subst hk
      rw [List.getElem?_set_self hi] at hv
      obtain rfl := Option.some.inj hv
      exact World.cell?_setCell_same' _ _ _ (by rw [(h.2 i l[i] (List.getElem?_eq_getElem hi)).1]; rfl)
    · rw [List.getElem?_set_ne hk] at hv
      rw [World.cell?_setCell_other _ _ _ _ (by intro e; injection e; omega)]
      exact (h.2 k v hv).1
  · have : ∃ v', l[k]? = some v' := by
      have hl := (List.getElem?_eq_some_iff.1 hv).1
      rw [List.length_set] at hl
      exact ⟨_, List.getElem?_eq_getElem hl⟩
    obtain ⟨v', hv'⟩ := this
    exact (World.frozen?_setCell _ _ _ _).trans (h.2 k v' hv').2
theorem Bx.grown {w w' : World} {b B : Nat} {l : List Value} (h : Bx w b l) (hg : w.grownBy w' (some B)) (hne : b ≠ B) : Bx w' b l :=
  h.block (Nat.lt_of_lt_of_le h.1 hg.size) (hg.block b h.1 (fun e => hne (by injection e)))
theorem Bx.five {w : World} {b : Nat} {v0 v1 v2 v3 v4 : Value} (h : Bx w b [v0, v1, v2, v3, v4]) :
    w.cell? ⟨b, 0, none⟩ = some v0 ∧ w.cell? ⟨b, 1, none⟩ = some v1 ∧ w.cell? ⟨b, 2, none⟩ = some v2 ∧ w.cell? ⟨b, 3, none⟩ = some v3 ∧ w.cell? ⟨b, 4, none⟩ = some v4 ∧
    w.frozen? ⟨b, 0, none⟩ = false ∧ w.frozen? ⟨b, 1, none⟩ = false ∧ w.frozen? ⟨b, 2, none⟩ = false ∧ w.frozen? ⟨b, 3, none⟩ = false ∧ w.frozen? ⟨b, 4, none⟩ = false :=
  ⟨(h.2 0 v0 rfl).1, (h.2 1 v1 rfl).1, (h.2 2 v2 rfl).1, (h.2 3 v3 rfl).1, (h.2 4 v4 rfl).1, (h.2 0 v0 rfl).2, (h.2 1 v1 rfl).2, (h.2 2 v2 rfl).2, (h.2 3 v3 rfl).2, (h.2 4 v4 rfl).2⟩
/-- What may be done to a box with five cells without touching another. -/
theorem below_alloc11 (w : World) (o : Obj) : Below w.heap.size w (w.alloc o) := (Below.refl _ _).alloc (Nat.le_refl _) o
end
end Go.Proofs.YtglmibmjbignbaaGreatDoor
