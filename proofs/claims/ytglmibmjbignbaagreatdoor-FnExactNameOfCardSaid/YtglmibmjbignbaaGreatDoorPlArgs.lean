/-
  What a walk is told of a place that came in by value, and of a slice of places that came in.
-/
import Derived.Test.YtglmibmjbignbaaGreatDoorMz8
namespace Go.Proofs.YtglmibmjbignbaaGreatDoor
set_option linter.unusedVariables false
open Go.ChangeShapes Go.WideShapes Go.Deep Go.RowKit

def SzL (p : Pl) : Prop := p.c.size ≤ maxLen ∧ p.ns.length ≤ maxLen ∧ ∀ e ∈ p.ns, e.t.size ≤ maxLen ∧ e.l.size ≤ maxLen
section
variable {H : Type} {enc : TypeId × Value → H} {w : World} {base : Nat} {held : Bool}
set_option maxRecDepth 100000 in
theorem names_of11 {fuel : Nat} {v : Value} {y : DataW H × List MemPlace} (hf : DataW.trod enc Tryz.prog w base (fun _ => true) held fuel 123 [v] = some y) :
    ∃ (a : Option Addr) (len cap : Nat) (xs : List Nm), v = .slice a len cap ∧ len ≤ cap ∧ len ≤ maxLen ∧ (∀ e ∈ xs, e.t.size ≤ maxLen ∧ e.l.size ≤ maxLen) ∧ NmAt w w.heap.size a len xs := by
  rcases open_slice Tryz.underlying123 hf with ⟨hcs, _⟩ | ⟨x, len, cap, m, n, D, Pl, hcs, _, hl, hm, hmm, _, hi⟩
  · simp at hcs
    exact ⟨none, 0, 0, [], hcs, Nat.le_refl _, Nat.zero_le _, by simp, rfl, fun h => absurd h (by omega)⟩
  · simp at hcs
    subst hcs
    have hC : (Tryz.prog).cellsOf 187 = 5 := by kernel_rfl
    have hm2 : m = cap := by simpa using hmm
    have key0 : ∀ i, i < len → ∃ q : Nm, (w.cell? ((x.add (i * 5)).add 0) = some (.string q.t) ∧ w.cell? ((x.add (i * 5)).add 1) = some (.string q.l) ∧ w.cell? ((x.add (i * 5)).add 2) = some (.int .i64 q.s) ∧ w.cell? ((x.add (i * 5)).add 3) = some (.int .i64 q.f) ∧ w.cell? ((x.add (i * 5)).add 4) = some (.int .i64 q.u)) ∧ q.t.size ≤ maxLen ∧ q.l.size ≤ maxLen := by
      intro i hil
      obtain ⟨cs', hc, ht⟩ := hi i (by omega)
      rw [hC] at hc
      obtain ⟨_, hcl, hat⟩ := World.cells?_some hc
      obtain ⟨q, rfl, h1, h2, _⟩ := trod_nm hcl ht
      have hc0 := hat 0 (by omega)
      have hc1 := hat 1 (by omega)
      have hc2 := hat 2 (by omega)
      have hc3 := hat 3 (by omega)
      have hc4 := hat 4 (by omega)
      exact ⟨q, ⟨hc0, hc1, hc2, hc3, hc4⟩, h1, h2⟩
    obtain ⟨b, o, spot⟩ := x
    have key : ∀ i, i < len → ∃ q : Nm, ∃ b' o', (some ⟨b, o, spot⟩ : Option Addr) = some ⟨b', o', none⟩ ∧ b' < w.heap.size ∧ NmCell w b' (o' + i * 5) q ∧ q.t.size ≤ maxLen ∧ q.l.size ≤ maxLen := by
      intro i hil
      have hsp : spot = none := by
        obtain ⟨_, ⟨h0, _⟩, _⟩ := key0 0 (by omega)
        simpa [Addr.add] using World.cell?_spot h0
      subst hsp
      obtain ⟨q, ⟨h0, h1, h2, h5, h6⟩, h3, h4⟩ := key0 i hil
      rw [add_plain', add_plain', Nat.add_zero] at h0
      rw [add_plain', add_plain'] at h1 h2 h5 h6
      exact ⟨q, b, o, rfl, World.block_lt_of_cell? w _ h0, ⟨h0, h1, h2, h5, h6⟩, h3, h4⟩
    obtain ⟨zs, hzl, hz⟩ := exists_listN len key
    refine ⟨some ⟨b, o, spot⟩, len, cap, zs, rfl, by omega, by omega, fun e he => ?_, hzl.symm, fun hp => ?_⟩
    · obtain ⟨i, hi⟩ := List.mem_iff_getElem?.1 he
      obtain ⟨_, _, _, _, _, h3, h4⟩ := hz i e hi
      exact ⟨h3, h4⟩
    · obtain ⟨b', o', e1, e2, _⟩ := hz 0 zs[0] (List.getElem?_eq_getElem (by omega))
      refine ⟨b', o', e1, e2, fun j e he => ?_⟩
      obtain ⟨b2, o2, e3, _, e4, _⟩ := hz j e he
      rw [e1] at e3
      injection e3 with e3
      injection e3 with h1 h2
      subst h1; subst h2
      exact e4
set_option maxRecDepth 100000 in
theorem trod_pl {fuel : Nat} {cs : List Value} {d : DataW H × List MemPlace} (hl : cs.length = 5) (hf : DataW.trod enc Tryz.prog w base (fun _ => true) held fuel 125 cs = some d) :
    ∃ (q : Pl) (A : Option Addr) (c : Nat), cs = [.string q.c, .int .i64 q.k, .int .i64 q.f, .int .i64 q.u, .slice A q.ns.length c] ∧ q.ns.length ≤ c ∧ SzL q ∧ NmAt w w.heap.size A q.ns.length q.ns := by
  obtain ⟨c0, c1, c2, c3, c4, rfl⟩ := list5A hl
  obtain ⟨y0, y1, y2, y3, n, _, _, h0, h1, h2, h3⟩ := Joins.trod_struct4 Tryz.underlying125 hf
  have k0 : (Tryz.prog).cellsOf 9 = 1 := by kernel_rfl
  have k1 : (Tryz.prog).cellsOf 2 = 1 := by kernel_rfl
  have k2 : (Tryz.prog).cellsOf 122 = 2 := by kernel_rfl
  have k3 : (Tryz.prog).cellsOf 123 = 1 := by kernel_rfl
  simp only [k0, k1, k2, k3, List.drop_zero, List.drop_succ_cons, List.take_succ_cons, List.take_zero] at h0 h1 h2 h3
  obtain ⟨z0, z1, n', _, _, g0, g1⟩ := trod_struct2 Tryz.underlying122 h2
  simp only [k1, List.drop_zero, List.drop_succ_cons, List.take_succ_cons, List.take_zero] at g0 g1
  obtain ⟨s, hs, _, hsl⟩ := DataW.trod_string Tryz.underlying9 h0
  obtain ⟨u, hu, _, wu⟩ := DataW.trod_int Tryz.underlying2 h1
  obtain ⟨f, hff, _, wf⟩ := DataW.trod_int Tryz.underlying2 g0
  obtain ⟨t, ht, _, wt⟩ := DataW.trod_int Tryz.underlying2 g1
  obtain ⟨A, len, cap, xs, hv, hcap, hlen, hss, hn⟩ := names_of11 h3
  simp at hs hu hff ht
  subst hs; subst hu; subst hff; subst ht; subst hv
  obtain rfl : len = xs.length := hn.1
  exact ⟨⟨s, u, f, t, xs⟩, A, cap, rfl, hcap, ⟨hsl, hlen, hss⟩, hn⟩
set_option maxRecDepth 100000 in
theorem openPlace {r : Reach} {b0 : Nat} {v : Value} {d : DataW H} {p : List MemPlace} (hv : Value.okWide Tryz.prog w r b0 125 v) (h : DataW.Trod enc Tryz.prog w base (fun _ => true) held 125 v d p) :
    ∃ (q : Pl) (A : Option Addr) (c : Nat), v = .agg #[.string q.c, .int .i64 q.k, .int .i64 q.f, .int .i64 q.u, .slice A q.ns.length c] ∧ q.ns.length ≤ c ∧ SzL q ∧ NmAt w w.heap.size A q.ns.length q.ns := by
  obtain ⟨cs, rfl, hsz⟩ := okWide_struct Tryz.underlying125 hv
  have hC : (Tryz.prog).cellsOf 125 = 5 := by kernel_rfl
  obtain ⟨fuel, hf⟩ := h
  obtain ⟨q, A, c, hq, r1⟩ := trod_pl (cs := cs.toList) (by rw [Array.length_toList]; exact hsz.trans hC) (by simpa [Value.cells] using hf)
  refine ⟨q, A, c, ?_, r1⟩
  have : cs = #[.string q.c, .int .i64 q.k, .int .i64 q.f, .int .i64 q.u, .slice A q.ns.length c] := by rw [← Array.toList_inj, hq]
  rw [this]
set_option maxRecDepth 100000 in
theorem openPlaces {r : Reach} {b0 : Nat} {v : Value} {d : DataW H} {p : List MemPlace} (hv : Value.okWide Tryz.prog w r b0 59 v) (h : DataW.Trod enc Tryz.prog w base (fun _ => true) held 59 v d p) :
    ∃ (a : Option Addr) (len cap : Nat) (ps : List Pl), v = .slice a len cap ∧ len ≤ maxLen ∧ (∀ p ∈ ps, SzL p) ∧ PlAt w w.heap.size a len ps := by
  obtain ⟨a, len, cap, rfl⟩ := okWide_slice Tryz.underlying59 hv
  obtain ⟨fuel, hf⟩ := h
  rcases open_slice Tryz.underlying59 hf with ⟨hcs, _⟩ | ⟨x, l, c, m, n, D, Pl', hcs, _, hl, hm, hmm, _, hi⟩
  · simp [Value.cells] at hcs
    obtain ⟨rfl, rfl, rfl⟩ := hcs
    exact ⟨none, 0, 0, [], rfl, Nat.zero_le _, by simp, rfl, fun h => absurd h (by omega)⟩
  · simp [Value.cells] at hcs
    obtain ⟨rfl, rfl, rfl⟩ := hcs
    have hC : (Tryz.prog).cellsOf 125 = 5 := by kernel_rfl
    have hm2 : m = cap := by simpa using hmm
    have key0 : ∀ i, i < len → ∃ (q : Pl) (A : Option Addr) (e : Nat), (w.cell? ((x.add (i * 5)).add 0) = some (.string q.c) ∧ w.cell? ((x.add (i * 5)).add 1) = some (.int .i64 q.k) ∧ w.cell? ((x.add (i * 5)).add 2) = some (.int .i64 q.f) ∧ w.cell? ((x.add (i * 5)).add 3) = some (.int .i64 q.u) ∧ w.cell? ((x.add (i * 5)).add 4) = some (.slice A q.ns.length e)) ∧ q.ns.length ≤ e ∧ SzL q ∧ NmAt w w.heap.size A q.ns.length q.ns := by
      intro i hil
      obtain ⟨cs', hc, ht⟩ := hi i (by omega)
      rw [hC] at hc
      obtain ⟨_, hcl, hat⟩ := World.cells?_some hc
      obtain ⟨q, A, e, rfl, h1, h2, h3⟩ := trod_pl hcl ht
      have hc0 := hat 0 (by omega)
      have hc1 := hat 1 (by omega)
      have hc2 := hat 2 (by omega)
      have hc3 := hat 3 (by omega)
      have hc4 := hat 4 (by omega)
      exact ⟨q, A, e, ⟨hc0, hc1, hc2, hc3, hc4⟩, h1, h2, h3⟩
    obtain ⟨b, o, spot⟩ := x
    have key : ∀ i, i < len → ∃ q : Pl, ∃ b' o', (some ⟨b, o, spot⟩ : Option Addr) = some ⟨b', o', none⟩ ∧ b' < w.heap.size ∧ PlCell w w.heap.size b' (o' + i * 5) q ∧ SzL q := by
      intro i hil
      have hsp : spot = none := by
        obtain ⟨_, _, _, ⟨h0, _⟩, _⟩ := key0 0 (by omega)
        simpa [Addr.add] using World.cell?_spot h0
      subst hsp
      obtain ⟨q, A, e, ⟨h0, h1, h2, h5, h6⟩, h3, h4, h7⟩ := key0 i hil
      rw [add_plain', add_plain', Nat.add_zero] at h0
      rw [add_plain', add_plain'] at h1 h2 h5 h6
      exact ⟨q, b, o, rfl, World.block_lt_of_cell? w _ h0, ⟨A, e, h0, h1, h2, h5, h6, h7, h3⟩, h4⟩
    obtain ⟨zs, hzl, hz⟩ := exists_listN len key
    refine ⟨some ⟨b, o, spot⟩, len, cap, zs, rfl, by omega, fun e he => ?_, hzl.symm, fun hp => ?_⟩
    · obtain ⟨i, hi⟩ := List.mem_iff_getElem?.1 he
      obtain ⟨_, _, _, _, _, h3⟩ := hz i e hi
      exact h3
    · obtain ⟨b', o', e1, e2, _⟩ := hz 0 zs[0] (List.getElem?_eq_getElem (by omega))
      refine ⟨b', o', e1, e2, fun j e he => ?_⟩
      obtain ⟨b2, o2, e3, _, e4, _⟩ := hz j e he
      rw [e1] at e3
      injection e3 with e3
      injection e3 with h1 h2
      subst h1; subst h2
      exact e4
end
end Go.Proofs.YtglmibmjbignbaaGreatDoor
