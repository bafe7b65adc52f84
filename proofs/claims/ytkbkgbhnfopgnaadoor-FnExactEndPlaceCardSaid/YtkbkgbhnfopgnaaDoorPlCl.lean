/-
  The contracts of slices.Clone at names and at places, and of copyPlaces.
-/
import Derived.Test.YtkbkgbhnfopgnaaDoorPlR
import Derived.Test.YtkbkgbhnfopgnaaDoorPlTo
import Derived.Deep.RegionLaw
import Derived.Lib.SliceRun
import Derived.Deep.Onto
namespace Go.Proofs.YtkbkgbhnfopgnaaDoor
set_option linter.unusedVariables false
open Go.RowKit

theorem nm_cellsA {w : World} {B n : Nat} {a : Addr} {xs : List Nm} (h : NmAt w B (some a) n xs) : ∀ (j : Nat) u, (nmV xs)[j]? = some u → w.cell? (a.add j) = some u := by
  intro j u hu
  have hj := (List.getElem?_eq_some_iff.1 hu).1
  rw [nmV_len] at hj
  obtain ⟨b, o, e, _, hc⟩ := h.2 (by have := h.1; omega)
  injection e with e
  subst e
  obtain ⟨q, r, rfl, hr⟩ : ∃ q r, j = q * 5 + r ∧ r < 5 := ⟨j / 5, j % 5, by omega, by omega⟩
  obtain ⟨x, hx⟩ : ∃ x, xs[q]? = some x := ⟨xs[q]'(by omega), List.getElem?_eq_getElem _⟩
  have hv := nmV_at xs q x hx
  obtain ⟨c0, c1, c2, c3, c4⟩ := hc q x hx
  rw [add_plain']
  match r, hr with
  | 0, _ => rw [show q * 5 + 0 = q * 5 from rfl] at hu ⊢; rw [hv.1] at hu; rw [← Option.some.inj hu]; exact c0
  | 1, _ => rw [hv.2.1] at hu; rw [← Option.some.inj hu, ← Nat.add_assoc]; exact c1
  | 2, _ => rw [hv.2.2.1] at hu; rw [← Option.some.inj hu, ← Nat.add_assoc]; exact c2
  | 3, _ => rw [hv.2.2.2.1] at hu; rw [← Option.some.inj hu, ← Nat.add_assoc]; exact c3
  | 4, _ => rw [hv.2.2.2.2] at hu; rw [← Option.some.inj hu, ← Nat.add_assoc]; exact c4
theorem keptR {w w' : World} {base n : Nat} {A : Option Addr} {m d : Nat} {t : TypeId} {xs : List Value} {sz : Nat} (h : w.ownsRow base t sz (.slice A m d) n xs) (hb : Below w.heap.size w w') : w'.ownsRow base t sz (.slice A m d) n xs :=
  own_block11 h (fun k hk => hb.block k (h.lt k hk).2)
theorem row_form5 {w : World} {base : Nat} {v : Value} {m : Nat} {xs : List Value} {t : TypeId} (h : w.ownsRow base t 5 v m xs) : ∃ A c, v = .slice A m c ∧ m ≤ c := by
  rcases h.2 with ⟨rfl, rfl⟩ | ⟨g, cap, cur, rfl, _, _, h3, _⟩
  · exact ⟨_, _, rfl, Nat.le_refl _⟩
  · exact ⟨_, _, rfl, h3⟩

theorem nm_one11 (xs : List Nm) : ∀ u ∈ nmV xs, u.oneCell' = true := fun u hu => by
  unfold nmV at hu
  obtain ⟨x, _, hx⟩ := List.mem_flatMap.1 hu
  unfold encN at hx
  simp at hx
  rcases hx with rfl | rfl | rfl | rfl | rfl <;> rfl
def CloneOut (xs : List Nm) (n : Nat) (w : World) (e : Ending) (w' : World) : Prop :=
  ∃ C c, e = .returned (.slice C n c) ∧ n ≤ c ∧ w'.ownsRow w.heap.size 65 5 (.slice C n c) n (nmV xs) ∧ Below w.heap.size w w'
set_option maxHeartbeats 1000000 in
set_option maxRecDepth 100000 in
theorem cCloneN (A : Option Addr) (n cap : Nat) (xs : List Nm) (w : World) (hbig : n ≤ 1048576) (h : NmAt w w.heap.size A n xs) :
    Calls Tryd.prog 78 #[.slice A n cap] w (CloneOut xs n w) := by
  obtain ⟨i0, hi0, hz0, hz1, hz2⟩ := info_parts info_nm
  have hba := (Below.refl w.heap.size w).alloc (Nat.le_refl _) (.cells #[] 65)
  have HL : Hid ((nmV xs).length = n * 5) := Lib.hid (by rw [nmV_len, h.1])
  have he := Lib.run_eql_slice_nil (P := Tryd.prog) w 30 65 A n cap 0 0 Tryd.underlying30
  cases A with
  | none =>
    have h0 : n = 0 := by
      rcases Nat.eq_zero_or_pos n with h0 | hp
      · exact h0
      · obtain ⟨b, o, e, _⟩ := h.2 hp; cases e
    subst h0
    have hx : xs = [] := List.eq_nil_of_length_eq_zero h.1.symm
    subst hx
    clear h HL hba
    go_enter Tryd.func78, Tryd.ntmps78
    go_wp2_with fail
    go_ret
    exact ⟨none, 0, rfl, Nat.le_refl _, World.ownsRow_nil _ _ _ _, Below.refl _ _⟩
  | some a =>
    obtain ⟨b, o, sp⟩ := a
    have HC := Lib.hid (nm_cellsA (h.below hba (Nat.le_refl _)))
    clear h
    go_enter Tryd.func78, Tryd.ntmps78
    go_wp2_with (at_builtin; (refine wpList_append_own _ rfl _ _ 30 rfl w.heap.size 65 i0 _ 5 56 Tryd.underlying30 hi0 hz0 hz1 hz2 rfl (by decide) _ 0 [] rfl (World.ownsRow_lit (e := 65) (base := w.heap.size) (size := 5) w #[] 0 (Nat.le_refl _) (by decide) rfl) ⟨b, o, sp⟩ n cap (nmV xs) rfl HL.out HC.out (nm_one11 xs) ?d3 ?d4 ?d5 ?_))
    case d3 => unfold maxLen; omega
    case d4 => omega
    case d5 => simp
    intro v' w1 hown1 hgrow1 _
    obtain ⟨C, c, rfl, hc⟩ := row_form5 hown1
    have hb1 : Below w.heap.size w w1 := hba.grown hgrow1 (by simp) (fun k hk => by cases hk; exact Nat.le_refl _)
    have HO := Lib.hid hown1
    clear hown1 hgrow1
    go_wp2_with fail
    go_ret
    exact ⟨C, c, rfl, hc, HO.out, hb1⟩

/-- A row of places as it lies, the names wherever they are, below block B. -/
structure PsAt (w : World) (B : Nat) (A : Option Addr) (n : Nat) (es : List PE) : Prop where
  len : n = es.length
  cells : ∀ a, A = some a → ∀ (j : Nat) u, (plV es)[j]? = some u → w.cell? (a.add j) = some u
  none : A = none → n = 0
  names : ∀ e ∈ es, NmAt w B e.a e.p.ns.length e.p.ns ∧ e.p.ns.length ≤ e.d
theorem ps_of_pl {w : World} {B n : Nat} {A : Option Addr} {ps : List Pl} (h : PlAt w B A n ps) : ∃ es, plsOf es = ps ∧ PsAt w B A n es := by
  have key : ∀ i, i < n → ∃ e : PE, ps[i]? = some e.p ∧ (∀ a, A = some a → ∀ r, r < 5 → w.cell? (a.add (i * 5 + r)) = (encE11 e)[r]?) ∧ NmAt w B e.a e.p.ns.length e.p.ns ∧ e.p.ns.length ≤ e.d := by
    intro i hi
    obtain ⟨p, hp⟩ : ∃ p, ps[i]? = some p := ⟨ps[i]'(by have := h.1; omega), List.getElem?_eq_getElem _⟩
    obtain ⟨b, o, hA, _, A1, d1, c0, c1, c2, c3, c4, hn, hd⟩ := h.row hp
    refine ⟨⟨p, A1, d1⟩, hp, fun a ha r hr => ?_, hn, hd⟩
    rw [hA] at ha
    obtain rfl := Option.some.inj ha
    rw [add_plain', ← Nat.add_assoc]
    match r, hr with
    | 0, _ => exact c0
    | 1, _ => exact c1
    | 2, _ => exact c2
    | 3, _ => exact c3
    | 4, _ => exact c4
  obtain ⟨es, hl, hes⟩ := exists_listN n key
  refine ⟨es, ?_, ⟨hl.symm, fun a ha j u hu => ?_, fun hA => ?_, fun e he => ?_⟩⟩
  · apply List.ext_getElem?
    intro i
    by_cases hi : i < n
    · have he : es[i]? = some (es[i]'(by omega)) := List.getElem?_eq_getElem _
      rw [(hes i _ he).1, plsOf_at he]
    · rw [List.getElem?_eq_none (by rw [plsOf_len]; omega), List.getElem?_eq_none (by have := h.1; omega)]
  · have hj := (List.getElem?_eq_some_iff.1 hu).1
    rw [plV_len] at hj
    obtain ⟨q, r, rfl, hr⟩ : ∃ q r, j = q * 5 + r ∧ r < 5 := ⟨j / 5, j % 5, by omega, by omega⟩
    have he : es[q]? = some (es[q]'(by omega)) := List.getElem?_eq_getElem _
    rw [(hes q _ he).2.1 a ha r hr]
    have hv := plV_at es q _ he
    obtain rfl | rfl | rfl | rfl | rfl : r = 0 ∨ r = 1 ∨ r = 2 ∨ r = 3 ∨ r = 4 := by omega
    · rw [← hu]; exact hv.1.symm
    · rw [← hu]; exact hv.2.1.symm
    · rw [← hu]; exact hv.2.2.1.symm
    · rw [← hu]; exact hv.2.2.2.1.symm
    · rw [← hu]; exact hv.2.2.2.2.symm
  · rcases Nat.eq_zero_or_pos n with h0 | hp
    · exact h0
    · obtain ⟨b, o, e, _⟩ := h.2 hp; rw [hA] at e; cases e
  · obtain ⟨i, hi⟩ := List.mem_iff_getElem?.1 he
    exact (hes i e hi).2.2
theorem PsAt.below {w w' : World} {B C n : Nat} {A : Option Addr} {es : List PE} (h : PsAt w B A n es) (hb : Below C w w') (hBC : B ≤ C) (hA : ∀ a, A = some a → 0 < n → a.block < C) : PsAt w' B A n es :=
  ⟨h.len, fun a ha j u hu => (hb.cell (by
    have hj := (List.getElem?_eq_some_iff.1 hu).1
    rw [plV_len] at hj
    have := hA a ha (by have := h.len; omega)
    simpa [Addr.add] using (by unfold Addr.add; split <;> exact this : (a.add j).block < C))).trans (h.cells a ha j u hu), h.none, fun e he => ⟨(h.names e he).1.below hb hBC, (h.names e he).2⟩⟩

def ClonePl (es : List PE) (n : Nat) (w : World) (e : Ending) (w' : World) : Prop :=
  ∃ C c, e = .returned (.slice C n c) ∧ n ≤ c ∧ w'.ownsRow w.heap.size 32 5 (.slice C n c) n (plV es) ∧ Below w.heap.size w w'
set_option maxHeartbeats 1000000 in
set_option maxRecDepth 100000 in
theorem cClonePl (A : Option Addr) (n cap : Nat) (es : List PE) (w : World) (hbig : n ≤ 1048576) (h : PsAt w w.heap.size A n es) (hA : ∀ a, A = some a → 0 < n → a.block < w.heap.size) :
    Calls Tryd.prog 59 #[.slice A n cap] w (ClonePl es n w) := by
  obtain ⟨i0, hi0, hz0, hz1, hz2⟩ := info_parts info_pl
  have hba := (Below.refl w.heap.size w).alloc (Nat.le_refl _) (.cells #[] 32)
  have HL : Hid ((plV es).length = n * 5) := Lib.hid (by rw [plV_len, h.len])
  have he := Lib.run_eql_slice_nil (P := Tryd.prog) w 39 32 A n cap 0 0 Tryd.underlying39
  cases A with
  | none =>
    have h0 : n = 0 := h.none rfl
    subst h0
    have hx : es = [] := List.eq_nil_of_length_eq_zero h.len.symm
    subst hx
    clear h HL hba hA
    go_enter Tryd.func59, Tryd.ntmps59
    go_wp2_with fail
    go_ret
    exact ⟨none, 0, rfl, Nat.le_refl _, World.ownsRow_nil _ _ _ _, Below.refl _ _⟩
  | some a =>
    obtain ⟨b, o, sp⟩ := a
    have HC := Lib.hid ((h.below hba (Nat.le_refl _) hA).cells _ rfl)
    clear h hA
    go_enter Tryd.func59, Tryd.ntmps59
    go_wp2_with (at_builtin; (refine wpList_append_own _ rfl _ _ 39 rfl w.heap.size 32 i0 _ 5 64 Tryd.underlying39 hi0 hz0 hz1 hz2 rfl (by decide) _ 0 [] rfl (World.ownsRow_lit (e := 32) (base := w.heap.size) (size := 5) w #[] 0 (Nat.le_refl _) (by decide) rfl) ⟨b, o, sp⟩ n cap (plV es) rfl HL.out HC.out (pl_one11 es) ?d3 ?d4 ?d5 ?_))
    case d3 => unfold maxLen; omega
    case d4 => omega
    case d5 => simp
    intro v' w1 hown1 hgrow1 _
    obtain ⟨C, c, rfl, hc⟩ := row_form5 hown1
    have hb1 : Below w.heap.size w w1 := hba.grown hgrow1 (by simp) (fun k hk => by cases hk; exact Nat.le_refl _)
    have HO := Lib.hid hown1
    clear hown1 hgrow1
    go_wp2_with fail
    go_ret
    exact ⟨C, c, rfl, hc, HO.out, hb1⟩

/-- Rows of names of one's own, from block lo on below hi. -/
structure InnP (w : World) (lo hi : Nat) (es : List PE) : Prop where
  inner : ∀ e ∈ es, 0 < e.p.ns.length → w.ownsRow lo 65 5 (.slice e.a e.p.ns.length e.d) e.p.ns.length (nmV e.p.ns) ∧ ∀ k, (Value.slice e.a e.p.ns.length e.d).ownBlock = some k → k < hi
  apart : ∀ (i j : Nat) x y, i ≠ j → es[i]? = some x → es[j]? = some y → 0 < x.p.ns.length → 0 < y.p.ns.length → x.a ≠ y.a
theorem InnP.nil (w : World) (lo hi : Nat) : InnP w lo hi [] := ⟨fun e he => (by cases he), fun i j x y _ hi => (by simp at hi)⟩
theorem InnP.below {w w' : World} {lo hi hi' : Nat} {es : List PE} (h : InnP w lo hi es) (hb : Below w.heap.size w w') (hh : hi ≤ hi') : InnP w' lo hi' es :=
  ⟨fun e he hp => ⟨own_block11 (h.inner e he hp).1 (fun k hk => hb.block k ((h.inner e he hp).1.lt k hk).2), fun k hk => by have := (h.inner e he hp).2 k hk; omega⟩, h.apart⟩
theorem InnP.store {w w' : World} {lo hi n g c B : Nat} {es : List PE} {xs : List Value} (h : InnP w lo hi es) (ho : w.ownsRow B 32 5 (.slice (some ⟨g, 0, none⟩) n c) n xs) (hg : w.grownBy w' (some g)) : InnP w' lo hi es :=
  ⟨fun e he hp => ⟨World.ownsRow.kept (h.inner e he hp).1 hg (rows_apart11 (by decide) (h.inner e he hp).1 ho), (h.inner e he hp).2⟩, h.apart⟩
theorem InnP.snoc {w : World} {lo hi : Nat} {es : List PE} {e : PE} (h : InnP w lo hi es) (hin : 0 < e.p.ns.length → w.ownsRow lo 65 5 (.slice e.a e.p.ns.length e.d) e.p.ns.length (nmV e.p.ns) ∧ ∀ k, (Value.slice e.a e.p.ns.length e.d).ownBlock = some k → k < hi)
    (hap : ∀ x ∈ es, 0 < x.p.ns.length → 0 < e.p.ns.length → x.a ≠ e.a) : InnP w lo hi (es ++ [e]) := by
  refine ⟨fun x hx hp => ?_, fun i j x y hij hi hj hp hq => ?_⟩
  · rw [List.mem_append, List.mem_singleton] at hx
    rcases hx with hx | rfl
    · exact h.inner x hx hp
    · exact hin hp
  · have hl : ∀ (i : Nat) z, (es ++ [e])[i]? = some z → (i < es.length ∧ es[i]? = some z) ∨ (i = es.length ∧ z = e) := by
      intro i z hz
      by_cases hlt : i < es.length
      · rw [List.getElem?_append_left hlt] at hz; exact .inl ⟨hlt, hz⟩
      · have := (List.getElem?_eq_some_iff.1 hz).1
        simp at this
        obtain rfl : i = es.length := by omega
        simp at hz
        exact .inr ⟨rfl, hz.symm⟩
    rcases hl i x hi with ⟨_, a1⟩ | ⟨a1, rfl⟩ <;> rcases hl j y hj with ⟨_, b1⟩ | ⟨b1, rfl⟩
    · exact h.apart i j x y hij a1 b1 hp hq
    · exact hap x (List.mem_of_getElem? a1) hp hq
    · exact fun e0 => hap y (List.mem_of_getElem? b1) hq hp e0.symm
    · omega
theorem InnP.newer {w w1 : World} {lo hi m d : Nat} {a : Option Addr} {es : List PE} {xs : List Nm} (h : InnP w lo hi es) (h1 : w1.ownsRow w.heap.size 65 5 (.slice a m d) m (nmV xs)) (hm : 0 < m) :
    ∀ x ∈ es, 0 < x.p.ns.length → x.a ≠ a := by
  intro x hx hp e
  obtain ⟨g1, c1, hv1, _, hl1⟩ := World.ownsRow.form (h.inner x hx hp).1 hp
  obtain ⟨g2, c2, hv2, _, _⟩ := World.ownsRow.form h1 hm
  have hl2 := (h1.lt g2 (by rw [hv2]; rfl)).1
  injection hv1 with e1
  injection hv2 with e2
  rw [e1, e2] at e
  injection e with e
  injection e with e
  omega
theorem InnP.own {w : World} {lo hi n c : Nat} {A : Option Addr} {es : List PE} (h : InnP w lo hi es) (ho : w.ownsRow lo 32 5 (.slice A n c) n (plV es)) (ht : ∀ k, (Value.slice A n c).ownBlock = some k → k < hi) : OwnP w lo hi A n c es := ⟨ho, ht, h.inner, h.apart⟩
theorem OwnP.inn {w : World} {lo hi n c : Nat} {A : Option Addr} {es : List PE} (h : OwnP w lo hi A n c es) : InnP w lo hi es := ⟨h.inner, h.apart⟩
theorem swap_at {es' es : List PE} {k : Nat} {e q : PE} (hl : es'.length = k) (h : es[k]? = some e) : (es' ++ es.drop k).set k q = (es' ++ [q]) ++ es.drop (k + 1) := by
  have hk := (List.getElem?_eq_some_iff.1 h).1
  have hx := (List.getElem?_eq_some_iff.1 h).2
  rw [List.set_append_right _ _ (by omega), hl, Nat.sub_self, List.drop_eq_getElem_cons hk, List.set_cons_zero, List.append_assoc]
  rfl
theorem swap_get {es' es : List PE} {k : Nat} {e : PE} (hl : es'.length = k) (h : es[k]? = some e) : (es' ++ es.drop k)[k]? = some e := by
  rw [List.getElem?_append_right (by omega), hl, Nat.sub_self, List.getElem?_drop]; simpa using h

def CopyOut (ps : List Pl) (n : Nat) (w : World) (e : Ending) (w' : World) : Prop :=
  ∃ C c es, e = .returned (.slice C n c) ∧ plsOf es = ps ∧ OwnP w' w.heap.size w'.heap.size C n c es ∧ Below w.heap.size w w'
set_option maxHeartbeats 2000000 in
set_option maxRecDepth 100000 in
theorem cCopyPl (A : Option Addr) (n cap : Nat) (ps : List Pl) (w : World) (hbig : n ≤ 1048576) (hz : Sz11 ps) (h : PlAt w w.heap.size A n ps) :
    Calls Tryd.prog 57 #[.slice A n cap] w (CopyOut ps n w) := by
  obtain ⟨es, hes, hps⟩ := ps_of_pl h
  have hA : ∀ a, A = some a → 0 < n → a.block < w.heap.size := fun a ha hp => by
    obtain ⟨b, o, e, hb, _⟩ := h.2 hp
    rw [ha] at e; injection e with e; rw [e]; exact hb
  have CC := Lib.hid (cClonePl A n cap es w hbig hps hA)
  have HNM := Lib.hid (fun e he => hps.names e he)
  have HL := Lib.hid hps.len
  have HZ : Hid (∀ e ∈ es, e.p.ns.length ≤ 1048576) := Lib.hid (fun e he => (hz e.p (by rw [← hes]; exact List.mem_map_of_mem he)).2.1)
  have HES := Lib.hid hes
  clear h hps hA hz hes
  go_enter Tryd.func57, Tryd.ntmps57
  go_wp2_with fail
  refine CC.out.mono ?_
  rintro e w1 ⟨C, c, rfl, hcc, hown, hb1⟩
  have HO1 := Lib.hid hown
  clear hown CC
  go_wp2_with fail
  go_loopw [9] (fun i wr => ∃ (k : Nat) (es' : List PE), k ≤ n ∧ i = .int .i64 k ∧ Hid (es'.length = k ∧ plsOf es' = ps.take k) ∧ Hid (wr.ownsRow w.heap.size 32 5 (.slice C n c) n (plV (es' ++ es.drop k))) ∧ Hid (InnP wr w.heap.size wr.heap.size es') ∧ Below w.heap.size w wr) (fun i _ => n - (intOf i).toNat)
  case atStart => exact ⟨0, [], Nat.zero_le _, rfl, Lib.hid ⟨rfl, by simp [plsOf]⟩, by simpa using HO1, Lib.hid (InnP.nil _ _ _), hb1⟩
  case round =>
    clear HO1 hb1
    obtain ⟨k, es', hk, rfl, HE, HR, HI, hbw⟩ := hrel
    by_cases hlt : k < n
    · obtain ⟨x, hx⟩ : ∃ x, es[k]? = some x := ⟨es[k]'(by have := HL.out; omega), List.getElem?_eq_getElem _⟩
      obtain ⟨g, cc, hv, hg0, hgl⟩ := World.ownsRow.form HR.out (by omega)
      obtain ⟨rfl, rfl⟩ : C = some ⟨g, 0, none⟩ ∧ c = cc := by injection hv with h1 h2 h3; exact ⟨h1, h3⟩
      have hxm := List.mem_of_getElem? hx
      have hnx := HNM.out x hxm
      have CN := Lib.hid (cCloneN x.a x.p.ns.length x.d x.p.ns wr (HZ.out x hxm) (hnx.1.grow hbw))
      have hsw := swap_get HE.out.1 hx
      have hl1 := HR.out.1
      have q4 : wr.cell? ⟨g, k * 5 + 4, none⟩ = some (.slice x.a x.p.ns.length x.d) := (HR.out.cellAt (k * 5 + 4) (by omega)).trans (plV_at _ k x hsw).2.2.2.2
      have HX := Lib.hid hx
      have HSW := Lib.hid hsw
      have u1 : (0 : Int) ≤ (k : Int) := Int.natCast_nonneg _
      have u2 : (k : Int) < (n : Int) := by omega
      clear hx hnx hxm hsw hv hl1
      go_wp2_with fail
      refine CN.out.mono ?_
      rintro e w2 ⟨D, d, rfl, hdd, hin, g2⟩
      have hr2 := keptR HR.out g2
      have hl2 := hr2.1
      have q5 : w2.cell? ⟨g, k * 5 + 4, none⟩ = some (.slice x.a x.p.ns.length x.d) := (hr2.cellAt (k * 5 + 4) (by omega)).trans (plV_at _ k x HSW.out).2.2.2.2
      have f5 := hr2.frozenAt (k * 5 + 4)
      have hst := hr2.stored (k * 5 + 4) (.slice D x.p.ns.length d)
      have hset := plV_setN (es' ++ es.drop k) k x ⟨x.p, D, d⟩ HSW.out rfl rfl rfl rfl
      have hrow := hst.1
      rw [hset, swap_at HE.out.1 HX.out] at hrow
      have hi2 := HI.out.below g2 g2.size
      have hi3 := (hi2.snoc (e := ⟨x.p, D, d⟩) (fun _ => ⟨World.ownsRow.mono hin hbw.size, fun b hb => (hin.lt b hb).2⟩) (fun y hy hp hq => HI.out.newer hin hq y hy hp)).store hr2 hst.2
      have hbt := bstep9 hbw hbw.size g2
      have hb3 := hbt.setCell (p := ⟨g, k * 5 + 4, none⟩) (show w.heap.size ≤ g from (HR.out.lt g rfl).1) (.slice D x.p.ns.length d)
      have HR3 := Lib.hid hrow
      have HI3 : Hid (InnP (w2.setCell ⟨g, k * 5 + 4, none⟩ (.slice D x.p.ns.length d)) w.heap.size (w2.setCell ⟨g, k * 5 + 4, none⟩ (.slice D x.p.ns.length d)).heap.size (es' ++ [⟨x.p, D, d⟩])) := Lib.hid (by simpa using hi3)
      have HE3 : Hid ((es' ++ [(⟨x.p, D, d⟩ : PE)]).length = k + 1 ∧ plsOf (es' ++ [(⟨x.p, D, d⟩ : PE)]) = ps.take (k + 1)) := Lib.hid ⟨by simp [HE.out.1], by
        have h1 : ps[k]? = some x.p := by rw [← HES.out]; exact plsOf_at HX.out
        rw [plsOf_app, HE.out.2, take_snocP h1]; rfl⟩
      clear hr2 hl2 hst hset hrow hi2 hi3 hin g2 q4 hbt
      go_wp2_with fail
      go_roundw
      case rel => exact ⟨k + 1, _, by omega, by go_num, HE3, HR3, HI3, hb3⟩
      case measure => simp [intOf]; omega
    · obtain rfl : k = n := by omega
      have HF : Hid (plsOf es' = ps ∧ OwnP wr w.heap.size wr.heap.size C k c es') := Lib.hid (by
        have h1 := HR.out
        rw [List.drop_eq_nil_of_le (by have := HL.out; omega), List.append_nil] at h1
        have h2 := HE.out.2
        have h3 := congrArg List.length HES.out
        rw [plsOf_len] at h3
        rw [List.take_of_length_le (by have := HL.out; omega)] at h2
        exact ⟨h2, HI.out.own h1 (fun b hb => (h1.lt b hb).2)⟩)
      go_wp2_with fail
      go_ret
      exact ⟨C, c, es', rfl, HF.out.1, HF.out.2, hbw⟩
end Go.Proofs.YtkbkgbhnfopgnaaDoor
