/-
  What a walk is told of a name that came in by value, and of a slice of names that came in.
-/
import Derived.Test.YtglmibmjbignbaaGreatDoorMy5
import Derived.Test.YtglmibmjbignbaaGreatDoorMy1
import Derived.Deep.Slices
import Derived.Deep.Fields
import Derived.Deep.Strs
import Derived.ChangeSame
import Derived.Lib.SmallJoins
import Derived.Below
import Derived.WalkKit
import Derived.Test.YtglmibmjbignbaaGreatDoorChecked
import Derived.Test.YtglmibmjbignbaaGreatDoorPlPlain
import Derived.OwnWalk
import Derived.Laws.OwnMore
import Derived.Deep.QuietTactic
import Derived.Test.YtglmibmjbignbaaGreatDoorMy6
import Derived.Maps.AppendAt
import Derived.Lib.ItoaNum
import Derived.Deep.RegionHeld3
import Derived.Laws.IdiomStrings
namespace Go.Proofs.YtglmibmjbignbaaGreatDoor
section
set_option linter.unusedVariables false
open Go.ChangeShapes Go.WideShapes Go.Deep Go.RowKit

theorem exists_listN {α : Type} {Q : Nat → α → Prop} : ∀ (n : Nat), (∀ i, i < n → ∃ p, Q i p) → ∃ l : List α, l.length = n ∧ ∀ (i : Nat) p, l[i]? = some p → Q i p
  | 0, _ => ⟨[], rfl, fun i p h => by simp at h⟩
  | n + 1, h => by
    obtain ⟨l, hl, hq⟩ := exists_listN n (fun i hi => h i (by omega))
    obtain ⟨p, hp⟩ := h n (by omega)
    refine ⟨l ++ [p], by simp [hl], fun i q hi => ?_⟩
    by_cases hlt : i < n
    · rw [List.getElem?_append_left (by omega)] at hi; exact hq i q hi
    · rw [List.getElem?_append_right (by omega)] at hi
      have hil := (List.getElem?_eq_some_iff.1 hi).1
      simp at hil
      have hin : i = n := by omega
      subst hin
      rw [hl, Nat.sub_self] at hi
      obtain rfl : p = q := by simpa using hi
      exact hp
theorem array5 {α : Type} {cs : Array α} (h : cs.size = 5) : ∃ c0 c1 c2 c3 c4, cs = #[c0, c1, c2, c3, c4] := by
  obtain ⟨l⟩ := cs
  match l, h with
  | [c0, c1, c2, c3, c4], _ => exact ⟨c0, c1, c2, c3, c4, rfl⟩
theorem list5A {α : Type} {cs : List α} (h : cs.length = 5) : ∃ c0 c1 c2 c3 c4, cs = [c0, c1, c2, c3, c4] := by
  match cs, h with
  | [c0, c1, c2, c3, c4], _ => exact ⟨c0, c1, c2, c3, c4, rfl⟩
section
variable {H : Type} {enc : TypeId × Value → H} {w : World} {base : Nat} {held : Bool} {spare : Nat → Bool}
set_option maxRecDepth 100000 in
theorem trod_nm {fuel : Nat} {cs : List Value} {d : DataW H × List MemPlace} (hl : cs.length = 5) (hf : DataW.trod enc Tryz.prog w base spare held fuel 187 cs = some d) :
    ∃ q : Nm, cs = [.string q.t, .string q.l, .int .i64 q.s, .int .i64 q.f, .int .i64 q.u] ∧ q.t.size ≤ maxLen ∧ q.l.size ≤ maxLen ∧ (Lit.int .i64 q.s).wf = true ∧ (Lit.int .i64 q.f).wf = true ∧ (Lit.int .i64 q.u).wf = true := by
  obtain ⟨c0, c1, c2, c3, c4, rfl⟩ := list5A hl
  obtain ⟨y0, y1, y2, y3, n, _, _, h0, h1, h2, h3⟩ := Joins.trod_struct4 Tryz.underlying187 hf
  have k0 : (Tryz.prog).cellsOf 9 = 1 := by kernel_rfl
  have k1 : (Tryz.prog).cellsOf 2 = 1 := by kernel_rfl
  have k2 : (Tryz.prog).cellsOf 122 = 2 := by kernel_rfl
  simp only [k0, k1, k2, List.drop_zero, List.drop_succ_cons, List.take_succ_cons, List.take_zero] at h0 h1 h2 h3
  obtain ⟨z0, z1, n', _, _, g0, g1⟩ := trod_struct2 Tryz.underlying122 h3
  simp only [k1, List.drop_zero, List.drop_succ_cons, List.take_succ_cons, List.take_zero] at g0 g1
  obtain ⟨s, hs, _, hsl⟩ := DataW.trod_string Tryz.underlying9 h0
  obtain ⟨s', hs', _, hsl'⟩ := DataW.trod_string Tryz.underlying9 h1
  obtain ⟨u, hu, _, wu⟩ := DataW.trod_int Tryz.underlying2 h2
  obtain ⟨f, hff, _, wf⟩ := DataW.trod_int Tryz.underlying2 g0
  obtain ⟨t, ht, _, wt⟩ := DataW.trod_int Tryz.underlying2 g1
  simp at hs hs' hu hff ht
  subst hs; subst hs'; subst hu; subst hff; subst ht
  exact ⟨⟨s, s', u, f, t⟩, rfl, hsl, hsl', wu, wf, wt⟩
set_option maxRecDepth 100000 in
theorem openName {r : Reach} {b0 : Nat} {v : Value} {d : DataW H} {p : List MemPlace} (hv : Value.okWide Tryz.prog w r b0 187 v) (h : DataW.Trod enc Tryz.prog w base spare held 187 v d p) :
    ∃ q : Nm, v = nmA q ∧ q.t.size ≤ maxLen ∧ q.l.size ≤ maxLen ∧ (Lit.int .i64 q.s).wf = true ∧ (Lit.int .i64 q.f).wf = true ∧ (Lit.int .i64 q.u).wf = true := by
  obtain ⟨cs, rfl, hsz⟩ := okWide_struct Tryz.underlying187 hv
  have hC : (Tryz.prog).cellsOf 187 = 5 := by kernel_rfl
  obtain ⟨fuel, hf⟩ := h
  obtain ⟨q, hq, r1⟩ := trod_nm (cs := cs.toList) (by rw [Array.length_toList]; exact hsz.trans hC) (by simpa [Value.cells] using hf)
  refine ⟨q, ?_, r1⟩
  have : cs = #[.string q.t, .string q.l, .int .i64 q.s, .int .i64 q.f, .int .i64 q.u] := by rw [← Array.toList_inj, hq]
  rw [this]
set_option maxRecDepth 100000 in
theorem openNames {r : Reach} {b0 : Nat} {v : Value} {d : DataW H} {p : List MemPlace} (hv : Value.okWide Tryz.prog w r b0 123 v) (h : DataW.Trod enc Tryz.prog w base (fun _ => true) held 123 v d p) :
    ∃ (a : Option Addr) (len cap : Nat) (xs : List Nm), v = .slice a len cap ∧ len ≤ maxLen ∧ (∀ e ∈ xs, e.t.size ≤ maxLen ∧ e.l.size ≤ maxLen) ∧ NmAt w w.heap.size a len xs := by
  obtain ⟨a, len, cap, rfl⟩ := okWide_slice Tryz.underlying123 hv
  obtain ⟨fuel, hf⟩ := h
  rcases open_slice Tryz.underlying123 hf with ⟨hcs, _⟩ | ⟨x, l, c, m, n, D, Pl, hcs, _, hl, hm, hmm, _, hi⟩
  · simp [Value.cells] at hcs
    obtain ⟨rfl, rfl, rfl⟩ := hcs
    exact ⟨none, 0, 0, [], rfl, Nat.zero_le _, by simp, rfl, fun h => absurd h (by omega)⟩
  · simp [Value.cells] at hcs
    obtain ⟨rfl, rfl, rfl⟩ := hcs
    have hC : (Tryz.prog).cellsOf 187 = 5 := by kernel_rfl
    have hm2 : m = cap := by simpa using hmm
    have key0 : ∀ i, i < len → ∃ q : Nm, (w.cell? ((x.add (i * 5)).add 0) = some (.string q.t) ∧ w.cell? ((x.add (i * 5)).add 1) = some (.string q.l) ∧ w.cell? ((x.add (i * 5)).add 2) = some (.int .i64 q.s) ∧ w.cell? ((x.add (i * 5)).add 3) = some (.int .i64 q.f) ∧ w.cell? ((x.add (i * 5)).add 4) = some (.int .i64 q.u)) ∧ q.t.size ≤ maxLen ∧ q.l.size ≤ maxLen := by
      intro i hil
      obtain ⟨cs', hc, ht⟩ := hi i (by omega)
      rw [hC] at hc
      obtain ⟨_, hcl, hat⟩ := World.cells?_some hc
      obtain ⟨q, rfl, h1, h2, _⟩ := trod_nm hcl ht
      have hc0 := hat 0 (by omega)
      have hc1 := hat 1 (by omega)
      have hc2 := hat 2 (by omega)
      have hc3 := hat 3 (by omega)
      have hc4 := hat 4 (by omega)
      exact ⟨q, ⟨hc0, hc1, hc2, hc3, hc4⟩, h1, h2⟩
    obtain ⟨b, o, spot⟩ := x
    have key : ∀ i, i < len → ∃ q : Nm, ∃ b' o', (some ⟨b, o, spot⟩ : Option Addr) = some ⟨b', o', none⟩ ∧ b' < w.heap.size ∧ NmCell w b' (o' + i * 5) q ∧ q.t.size ≤ maxLen ∧ q.l.size ≤ maxLen := by
      intro i hil
      have hsp : spot = none := by
        obtain ⟨_, ⟨h0, _⟩, _⟩ := key0 0 (by omega)
        simpa [Addr.add] using World.cell?_spot h0
      subst hsp
      obtain ⟨q, ⟨h0, h1, h2, h5, h6⟩, h3, h4⟩ := key0 i hil
      rw [add_plain', add_plain', Nat.add_zero] at h0
      rw [add_plain', add_plain'] at h1 h2 h5 h6
      exact ⟨q, b, o, rfl, World.block_lt_of_cell? w _ h0, ⟨h0, h1, h2, h5, h6⟩, h3, h4⟩
    obtain ⟨zs, hzl, hz⟩ := exists_listN len key
    refine ⟨some ⟨b, o, spot⟩, len, cap, zs, rfl, by omega, fun e he => ?_, hzl.symm, fun hp => ?_⟩
    · obtain ⟨i, hi⟩ := List.mem_iff_getElem?.1 he
      obtain ⟨_, _, _, _, _, h3, h4⟩ := hz i e hi
      exact ⟨h3, h4⟩
    · obtain ⟨b', o', e1, e2, _⟩ := hz 0 zs[0] (List.getElem?_eq_getElem (by omega))
      refine ⟨b', o', e1, e2, fun j e he => ?_⟩
      obtain ⟨b2, o2, e3, _, e4, _⟩ := hz j e he
      rw [e1] at e3
      injection e3 with e3
      injection e3 with h1 h2
      subst h1; subst h2
      exact e4
end
end
section
set_option linter.unusedVariables false
open Go.ChangeShapes Go.WideShapes Go.Deep Go.RowKit

def SzL (p : Pl) : Prop := p.c.size ≤ maxLen ∧ p.ns.length ≤ maxLen ∧ ∀ e ∈ p.ns, e.t.size ≤ maxLen ∧ e.l.size ≤ maxLen
section
variable {H : Type} {enc : TypeId × Value → H} {w : World} {base : Nat} {held : Bool}
set_option maxRecDepth 100000 in
theorem names_of11 {fuel : Nat} {v : Value} {y : DataW H × List MemPlace} (hf : DataW.trod enc Tryz.prog w base (fun _ => true) held fuel 123 [v] = some y) :
    ∃ (a : Option Addr) (len cap : Nat) (xs : List Nm), v = .slice a len cap ∧ len ≤ cap ∧ len ≤ maxLen ∧ (∀ e ∈ xs, e.t.size ≤ maxLen ∧ e.l.size ≤ maxLen) ∧ NmAt w w.heap.size a len xs := by
  rcases open_slice Tryz.underlying123 hf with ⟨hcs, _⟩ | ⟨x, len, cap, m, n, D, Pl, hcs, _, hl, hm, hmm, _, hi⟩
  · simp at hcs
    exact ⟨none, 0, 0, [], hcs, Nat.le_refl _, Nat.zero_le _, by simp, rfl, fun h => absurd h (by omega)⟩
  · simp at hcs
    subst hcs
    have hC : (Tryz.prog).cellsOf 187 = 5 := by kernel_rfl
    have hm2 : m = cap := by simpa using hmm
    have key0 : ∀ i, i < len → ∃ q : Nm, (w.cell? ((x.add (i * 5)).add 0) = some (.string q.t) ∧ w.cell? ((x.add (i * 5)).add 1) = some (.string q.l) ∧ w.cell? ((x.add (i * 5)).add 2) = some (.int .i64 q.s) ∧ w.cell? ((x.add (i * 5)).add 3) = some (.int .i64 q.f) ∧ w.cell? ((x.add (i * 5)).add 4) = some (.int .i64 q.u)) ∧ q.t.size ≤ maxLen ∧ q.l.size ≤ maxLen := by
      intro i hil
      obtain ⟨cs', hc, ht⟩ := hi i (by omega)
      rw [hC] at hc
      obtain ⟨_, hcl, hat⟩ := World.cells?_some hc
      obtain ⟨q, rfl, h1, h2, _⟩ := trod_nm hcl ht
      have hc0 := hat 0 (by omega)
      have hc1 := hat 1 (by omega)
      have hc2 := hat 2 (by omega)
      have hc3 := hat 3 (by omega)
      have hc4 := hat 4 (by omega)
      exact ⟨q, ⟨hc0, hc1, hc2, hc3, hc4⟩, h1, h2⟩
    obtain ⟨b, o, spot⟩ := x
    have key : ∀ i, i < len → ∃ q : Nm, ∃ b' o', (some ⟨b, o, spot⟩ : Option Addr) = some ⟨b', o', none⟩ ∧ b' < w.heap.size ∧ NmCell w b' (o' + i * 5) q ∧ q.t.size ≤ maxLen ∧ q.l.size ≤ maxLen := by
      intro i hil
      have hsp : spot = none := by
        obtain ⟨_, ⟨h0, _⟩, _⟩ := key0 0 (by omega)
        simpa [Addr.add] using World.cell?_spot h0
      subst hsp
      obtain ⟨q, ⟨h0, h1, h2, h5, h6⟩, h3, h4⟩ := key0 i hil
      rw [add_plain', add_plain', Nat.add_zero] at h0
      rw [add_plain', add_plain'] at h1 h2 h5 h6
      exact ⟨q, b, o, rfl, World.block_lt_of_cell? w _ h0, ⟨h0, h1, h2, h5, h6⟩, h3, h4⟩
    obtain ⟨zs, hzl, hz⟩ := exists_listN len key
    refine ⟨some ⟨b, o, spot⟩, len, cap, zs, rfl, by omega, by omega, fun e he => ?_, hzl.symm, fun hp => ?_⟩
    · obtain ⟨i, hi⟩ := List.mem_iff_getElem?.1 he
      obtain ⟨_, _, _, _, _, h3, h4⟩ := hz i e hi
      exact ⟨h3, h4⟩
    · obtain ⟨b', o', e1, e2, _⟩ := hz 0 zs[0] (List.getElem?_eq_getElem (by omega))
      refine ⟨b', o', e1, e2, fun j e he => ?_⟩
      obtain ⟨b2, o2, e3, _, e4, _⟩ := hz j e he
      rw [e1] at e3
      injection e3 with e3
      injection e3 with h1 h2
      subst h1; subst h2
      exact e4
set_option maxRecDepth 100000 in
theorem trod_pl {fuel : Nat} {cs : List Value} {d : DataW H × List MemPlace} (hl : cs.length = 5) (hf : DataW.trod enc Tryz.prog w base (fun _ => true) held fuel 125 cs = some d) :
    ∃ (q : Pl) (A : Option Addr) (c : Nat), cs = [.string q.c, .int .i64 q.k, .int .i64 q.f, .int .i64 q.u, .slice A q.ns.length c] ∧ q.ns.length ≤ c ∧ SzL q ∧ NmAt w w.heap.size A q.ns.length q.ns := by
  obtain ⟨c0, c1, c2, c3, c4, rfl⟩ := list5A hl
  obtain ⟨y0, y1, y2, y3, n, _, _, h0, h1, h2, h3⟩ := Joins.trod_struct4 Tryz.underlying125 hf
  have k0 : (Tryz.prog).cellsOf 9 = 1 := by kernel_rfl
  have k1 : (Tryz.prog).cellsOf 2 = 1 := by kernel_rfl
  have k2 : (Tryz.prog).cellsOf 122 = 2 := by kernel_rfl
  have k3 : (Tryz.prog).cellsOf 123 = 1 := by kernel_rfl
  simp only [k0, k1, k2, k3, List.drop_zero, List.drop_succ_cons, List.take_succ_cons, List.take_zero] at h0 h1 h2 h3
  obtain ⟨z0, z1, n', _, _, g0, g1⟩ := trod_struct2 Tryz.underlying122 h2
  simp only [k1, List.drop_zero, List.drop_succ_cons, List.take_succ_cons, List.take_zero] at g0 g1
  obtain ⟨s, hs, _, hsl⟩ := DataW.trod_string Tryz.underlying9 h0
  obtain ⟨u, hu, _, wu⟩ := DataW.trod_int Tryz.underlying2 h1
  obtain ⟨f, hff, _, wf⟩ := DataW.trod_int Tryz.underlying2 g0
  obtain ⟨t, ht, _, wt⟩ := DataW.trod_int Tryz.underlying2 g1
  obtain ⟨A, len, cap, xs, hv, hcap, hlen, hss, hn⟩ := names_of11 h3
  simp at hs hu hff ht
  subst hs; subst hu; subst hff; subst ht; subst hv
  obtain rfl : len = xs.length := hn.1
  exact ⟨⟨s, u, f, t, xs⟩, A, cap, rfl, hcap, ⟨hsl, hlen, hss⟩, hn⟩
set_option maxRecDepth 100000 in
theorem openPlace {r : Reach} {b0 : Nat} {v : Value} {d : DataW H} {p : List MemPlace} (hv : Value.okWide Tryz.prog w r b0 125 v) (h : DataW.Trod enc Tryz.prog w base (fun _ => true) held 125 v d p) :
    ∃ (q : Pl) (A : Option Addr) (c : Nat), v = .agg #[.string q.c, .int .i64 q.k, .int .i64 q.f, .int .i64 q.u, .slice A q.ns.length c] ∧ q.ns.length ≤ c ∧ SzL q ∧ NmAt w w.heap.size A q.ns.length q.ns := by
  obtain ⟨cs, rfl, hsz⟩ := okWide_struct Tryz.underlying125 hv
  have hC : (Tryz.prog).cellsOf 125 = 5 := by kernel_rfl
  obtain ⟨fuel, hf⟩ := h
  obtain ⟨q, A, c, hq, r1⟩ := trod_pl (cs := cs.toList) (by rw [Array.length_toList]; exact hsz.trans hC) (by simpa [Value.cells] using hf)
  refine ⟨q, A, c, ?_, r1⟩
  have : cs = #[.string q.c, .int .i64 q.k, .int .i64 q.f, .int .i64 q.u, .slice A q.ns.length c] := by rw [← Array.toList_inj, hq]
  rw [this]
set_option maxRecDepth 100000 in
theorem openPlaces {r : Reach} {b0 : Nat} {v : Value} {d : DataW H} {p : List MemPlace} (hv : Value.okWide Tryz.prog w r b0 59 v) (h : DataW.Trod enc Tryz.prog w base (fun _ => true) held 59 v d p) :
    ∃ (a : Option Addr) (len cap : Nat) (ps : List Pl), v = .slice a len cap ∧ len ≤ maxLen ∧ (∀ p ∈ ps, SzL p) ∧ PlAt w w.heap.size a len ps := by
  obtain ⟨a, len, cap, rfl⟩ := okWide_slice Tryz.underlying59 hv
  obtain ⟨fuel, hf⟩ := h
  rcases open_slice Tryz.underlying59 hf with ⟨hcs, _⟩ | ⟨x, l, c, m, n, D, Pl', hcs, _, hl, hm, hmm, _, hi⟩
  · simp [Value.cells] at hcs
    obtain ⟨rfl, rfl, rfl⟩ := hcs
    exact ⟨none, 0, 0, [], rfl, Nat.zero_le _, by simp, rfl, fun h => absurd h (by omega)⟩
  · simp [Value.cells] at hcs
    obtain ⟨rfl, rfl, rfl⟩ := hcs
    have hC : (Tryz.prog).cellsOf 125 = 5 := by kernel_rfl
    have hm2 : m = cap := by simpa using hmm
    have key0 : ∀ i, i < len → ∃ (q : Pl) (A : Option Addr) (e : Nat), (w.cell? ((x.add (i * 5)).add 0) = some (.string q.c) ∧ w.cell? ((x.add (i * 5)).add 1) = some (.int .i64 q.k) ∧ w.cell? ((x.add (i * 5)).add 2) = some (.int .i64 q.f) ∧ w.cell? ((x.add (i * 5)).add 3) = some (.int .i64 q.u) ∧ w.cell? ((x.add (i * 5)).add 4) = some (.slice A q.ns.length e)) ∧ q.ns.length ≤ e ∧ SzL q ∧ NmAt w w.heap.size A q.ns.length q.ns := by
      intro i hil
      obtain ⟨cs', hc, ht⟩ := hi i (by omega)
      rw [hC] at hc
      obtain ⟨_, hcl, hat⟩ := World.cells?_some hc
      obtain ⟨q, A, e, rfl, h1, h2, h3⟩ := trod_pl hcl ht
      have hc0 := hat 0 (by omega)
      have hc1 := hat 1 (by omega)
      have hc2 := hat 2 (by omega)
      have hc3 := hat 3 (by omega)
      have hc4 := hat 4 (by omega)
      exact ⟨q, A, e, ⟨hc0, hc1, hc2, hc3, hc4⟩, h1, h2, h3⟩
    obtain ⟨b, o, spot⟩ := x
    have key : ∀ i, i < len → ∃ q : Pl, ∃ b' o', (some ⟨b, o, spot⟩ : Option Addr) = some ⟨b', o', none⟩ ∧ b' < w.heap.size ∧ PlCell w w.heap.size b' (o' + i * 5) q ∧ SzL q := by
      intro i hil
      have hsp : spot = none := by
        obtain ⟨_, _, _, ⟨h0, _⟩, _⟩ := key0 0 (by omega)
        simpa [Addr.add] using World.cell?_spot h0
      subst hsp
      obtain ⟨q, A, e, ⟨h0, h1, h2, h5, h6⟩, h3, h4, h7⟩ := key0 i hil
      rw [add_plain', add_plain', Nat.add_zero] at h0
      rw [add_plain', add_plain'] at h1 h2 h5 h6
      exact ⟨q, b, o, rfl, World.block_lt_of_cell? w _ h0, ⟨A, e, h0, h1, h2, h5, h6, h7, h3⟩, h4⟩
    obtain ⟨zs, hzl, hz⟩ := exists_listN len key
    refine ⟨some ⟨b, o, spot⟩, len, cap, zs, rfl, by omega, fun e he => ?_, hzl.symm, fun hp => ?_⟩
    · obtain ⟨i, hi⟩ := List.mem_iff_getElem?.1 he
      obtain ⟨_, _, _, _, _, h3⟩ := hz i e hi
      exact h3
    · obtain ⟨b', o', e1, e2, _⟩ := hz 0 zs[0] (List.getElem?_eq_getElem (by omega))
      refine ⟨b', o', e1, e2, fun j e he => ?_⟩
      obtain ⟨b2, o2, e3, _, e4, _⟩ := hz j e he
      rw [e1] at e3
      injection e3 with e3
      injection e3 with h1 h2
      subst h1; subst h2
      exact e4
end
end
section
set_option linter.unusedVariables false
open Go.RowKit

/-- From w to w' nothing in the blocks lo .. hi - 1 has changed. -/
structure Like (lo hi : Nat) (w w' : World) : Prop where
  os : w'.os = w.os
  tape : w'.tape = w.tape
  output : w'.output = w.output
  size : w.heap.size ≤ w'.heap.size
  block : ∀ k, lo ≤ k → k < hi → w'.heap[k]? = w.heap[k]?
theorem Like.refl (lo hi : Nat) (w : World) : Like lo hi w w := ⟨rfl, rfl, rfl, Nat.le_refl _, fun _ _ _ => rfl⟩
theorem Like.trans {lo hi : Nat} {a b c : World} (h : Like lo hi a b) (k : Like lo hi b c) : Like lo hi a c :=
  ⟨k.os.trans h.os, k.tape.trans h.tape, k.output.trans h.output, Nat.le_trans h.size k.size, fun i h1 h2 => (k.block i h1 h2).trans (h.block i h1 h2)⟩
theorem Like.of_below {lo hi B : Nat} {w w' : World} (h : Below B w w') (hB : hi ≤ B) : Like lo hi w w' := ⟨h.os, h.tape, h.output, h.size, fun k _ h2 => h.block k (Nat.lt_of_lt_of_le h2 hB)⟩
theorem Like.of_grown {lo hi : Nat} {w w' : World} {r : Option Nat} (h : w.grownBy w' r) (hw : hi ≤ w.heap.size) (hne : ∀ k, r = some k → k < lo ∨ hi ≤ k) : Like lo hi w w' :=
  ⟨h.os, h.tape, h.output, h.size, fun k h1 h2 => h.block k (Nat.lt_of_lt_of_le h2 hw) (fun e => by have := hne k e.symm; omega)⟩
theorem Like.below {hi : Nat} {w w' : World} (h : Like 0 hi w w') : Below hi w w' := ⟨h.os, h.tape, h.output, h.size, fun k h1 => h.block k (Nat.zero_le _) h1⟩
/-- P holds as long as the blocks lo .. hi - 1 lie as they lie. -/
def Sp (lo hi : Nat) (P : World → Prop) (w : World) : Prop := hi ≤ w.heap.size ∧ ∀ W, Like lo hi w W → P W
theorem Sp.here {lo hi : Nat} {P : World → Prop} {w : World} (h : Sp lo hi P w) : P w := h.2 w (Like.refl _ _ _)
theorem Sp.like {lo hi : Nat} {P : World → Prop} {w w' : World} (h : Sp lo hi P w) (hl : Like lo hi w w') : Sp lo hi P w' := ⟨Nat.le_trans h.1 hl.size, fun W hW => h.2 W (hl.trans hW)⟩
theorem Sp.next {lo hi : Nat} {P : World → Prop} {w w' : World} (h : Sp lo hi P w) (hb : Below w.heap.size w w') : Sp lo hi P w' := h.like (Like.of_below hb h.1)
theorem Sp.mark {lo hi : Nat} {P : World → Prop} {w w' : World} {r : Option Nat} (h : Sp lo hi P w) (hg : w.grownBy w' r) (hne : ∀ k, r = some k → k < lo ∨ hi ≤ k) : Sp lo hi P w' := h.like (Like.of_grown hg h.1 hne)
theorem Sp.from_ (w : World) : Sp 0 w.heap.size (fun W => Below w.heap.size w W) w := ⟨Nat.le_refl _, fun _ h => h.below⟩
theorem Sp.row {w : World} {lo s n : Nat} {t : TypeId} {v : Value} {xs : List Value} (h : w.ownsRow lo t s v n xs) : Sp lo w.heap.size (fun W => W.ownsRow lo t s v n xs) w :=
  ⟨Nat.le_refl _, fun W hW => ⟨h.1, by
    rcases h.2 with h2 | ⟨g, cap, cur, h1, h2, h3, h4⟩
    · exact .inl h2
    · exact .inr ⟨g, cap, cur, h1, h2, (hW.block g h2 (Array.getElem?_eq_some_iff.1 h3).1).trans h3, h4⟩⟩⟩
/-- A row that was written anew, in the range in which it lay. -/
theorem Sp.again {w : World} {lo hi s n : Nat} {t : TypeId} {v : Value} {xs : List Value} (h : w.ownsRow lo t s v n xs) (hlt : ∀ k, v.ownBlock = some k → k < hi) (hh : hi ≤ w.heap.size) : Sp lo hi (fun W => W.ownsRow lo t s v n xs) w :=
  ⟨hh, fun W hW => ⟨h.1, by
    rcases h.2 with h2 | ⟨g, cap, cur, h1, h2, h3, h4⟩
    · exact .inl h2
    · exact .inr ⟨g, cap, cur, h1, h2, (hW.block g h2 (hlt g (by rw [h1]; rfl))).trans h3, h4⟩⟩⟩
theorem own_range {w : World} {lo s n : Nat} {t : TypeId} {v : Value} {xs : List Value} (h : w.ownsRow lo t s v n xs) : ∀ k, v.ownBlock = some k → lo ≤ k ∧ k < w.heap.size := h.lt
theorem below_drN_r {B : Nat} {a w : World} (h : Below B a w) (n : Nat) : Below B a (w.drewN n) := ⟨h.os, h.tape, h.output, h.size, h.block⟩
end
section
set_option linter.unusedVariables false
open Go.RowKit

theorem below_dr0 {B : Nat} {a w : World} (h : Below B a w) (n : Nat) : Below B a (w.drewN n) := ⟨h.os, h.tape, h.output, h.size, h.block⟩
theorem below_grown {w w' : World} (h : Below w.heap.size w w') (row : Option Nat) : w.grownBy w' row := ⟨h.os, h.tape, h.output, h.size, fun k hk _ => h.block k hk⟩

def markB (k : Nat) : ByteArray := ⟨(109 :: Lib.decDigits k).toArray⟩
theorem dec_step (j : Nat) (l : List UInt8) (h : 0 < j) : Lib.decDigits j ++ l = (if j / 10 = 0 then [] else Lib.decDigits (j / 10)) ++ (48 + UInt8.ofNat (j % 10)) :: l := by
  by_cases h10 : j < 10
  · rw [Lib.decDigits, dif_pos h10, if_pos (by omega)]
    have : j % 10 = j := Nat.mod_eq_of_lt h10
    simp [this]
  · rw [Lib.decDigits, dif_neg h10, if_neg (by omega)]
    simp

theorem dec_len (k : Nat) : (Lib.decDigits k).length ≤ k + 1 := by
  induction k using Nat.strongRecOn with
  | _ k ih =>
    by_cases h : k < 10
    · rw [Lib.decDigits, dif_pos h]; simp
    · rw [Lib.decDigits, dif_neg h]
      have := ih (k / 10) (by omega)
      simp; omega
theorem conv_one (w : World) (j : Nat) : (convert 22 9 (.slice (some ⟨w.heap.size, 0, none⟩) 1 1)).run Tryz.prog (w.alloc (.cells #[.int .u8 (48 + (j : Int) % 10)] 5)) =
    .ok (.string ⟨#[UInt8.ofNat (48 + j % 10)]⟩) (w.alloc (.cells #[.int .u8 (48 + (j : Int) % 10)] 5)) := by
  refine run_convert_bytes_back (P := Tryz.prog) (w.alloc (.cells #[.int .u8 (48 + (j : Int) % 10)] 5)) 22 9 5 ⟨w.heap.size, 0, none⟩ 1 [UInt8.ofNat (48 + j % 10)] Tryz.underlying22 Tryz.underlying5 Tryz.underlying9 ?_
  intro i hi
  obtain rfl : i = 0 := by simpa using hi
  have h1 : ((UInt8.ofNat (48 + j % 10)).toNat : Int) = 48 + (j : Int) % 10 := by
    rw [UInt8.toNat_ofNat_of_lt' (by simp [UInt8.size]; omega)]; omega
  have h2 := new_one w (.int .u8 (48 + (j : Int) % 10)) 5
  have h3 : ((⟨w.heap.size, 0, none⟩ : Addr).add 0) = ⟨w.heap.size, 0, none⟩ := by simp [Addr.add]
  rw [h3, h2]
  exact congrArg (fun x => some (Value.int .u8 x)) h1.symm

set_option maxHeartbeats 400000 in
set_option maxRecDepth 100000 in
theorem cMarkText (k : Nat) (w : World) (h1 : 1 ≤ k) (h2 : k ≤ 1099511627776) :
    Calls Tryz.prog 111 #[.int .i64 k] w fun e w' => e = .returned (.string (markB k)) ∧ Below w.heap.size w w' := by
  have hd : decide (k = 0) = false := decide_eq_false (by omega)
  go_enter Tryz.func111, Tryz.ntmps111
  go_wp2
  clear hd
  go_loopw [0, 3] (fun kk o wr => ∃ (j : Nat) (l : ByteArray), j ≤ 1099511627776 ∧ kk = .int .i64 j ∧ o = .string l ∧ Hid ((if j = 0 then [] else Lib.decDigits j) ++ l.data.toList = Lib.decDigits k) ∧ Below w.heap.size w wr) (fun kk _ _ => (intOf kk).toNat)
  case atStart => exact ⟨k, ByteArray.empty, h2, rfl, rfl, Lib.hid (by rw [if_neg (by omega)]; exact List.append_nil _), Below.refl _ _⟩
  case round =>
    obtain ⟨j, l, hj, rfl, rfl, HL, hbw⟩ := hrel
    have hsz : l.size ≤ 1099511627777 := by
      have h3 := congrArg List.length HL.out
      have h4 := dec_len k
      rw [List.length_append] at h3
      have h5 : l.data.toList.length = l.size := size_list l
      omega
    by_cases hlt : 0 < j
    · have hcv := conv_one wr j
      go_wp2
      go_roundw
      case rel => exact ⟨j / 10, _, by omega, by go_num, rfl, Lib.hid (by have h := HL.out; rw [if_neg (show ¬ j = 0 by omega), dec_step j _ hlt] at h; rw [← h]; simp), hbw.alloc hbw.size _⟩
      case measure => simp [intOf]; omega
    · go_wp2
      go_ret
      obtain rfl : j = 0 := by omega
      have hl : l.data.toList = Lib.decDigits k := HL.out
      refine ⟨?_, hbw⟩
      rw [show (⟨#[109]⟩ : ByteArray) ++ l = markB k from by
        unfold markB
        apply ByteArray.ext
        rw [← hl]
        simp]
      rfl

/-- The first j cells marked, the rest as it was. -/
def markL (k j : Nat) (xs : List Value) : List Value := ((List.range j).map fun i => Value.string (markB (k + i))) ++ xs.drop j
theorem markL_zero (k : Nat) (xs : List Value) : markL k 0 xs = xs := by simp [markL]
theorem markL_step (k j : Nat) (xs : List Value) (hj : j < xs.length) : (markL k j xs).set j (.string (markB (k + j))) = markL k (j + 1) xs := by
  unfold markL
  rw [List.set_append_right _ _ (by simp), List.range_succ, List.map_append, List.append_assoc]
  congr 1
  simp only [List.length_map, List.length_range, Nat.sub_self]
  rw [List.drop_eq_getElem_cons hj, List.set_cons_zero]
  rfl
theorem markL_all (k : Nat) (xs : List Value) (n : Nat) (hn : n = xs.length) : markL k n xs = (List.range n).map fun i => Value.string (markB (k + i)) := by
  unfold markL; rw [List.drop_of_length_le (by omega), List.append_nil]
def marksV (k n : Nat) : List Value := (List.range n).map fun i => Value.string (markB (k + i))
theorem marksV_at (k n j : Nat) (h : j < n) : (marksV k n)[j]? = some (.string (markB (k + j))) := by simp [marksV, h]

set_option maxHeartbeats 1000000 in
set_option maxRecDepth 100000 in
theorem cMarkS (base g cap n k : Nat) (xs : List Value) (w : World) (hk : 1 ≤ k) (hkn : k + n ≤ 1099511627776) (hg : g < w.heap.size)
    (hown : w.ownsRow base 9 1 (.slice (some ⟨g, 0, none⟩) n cap) n xs) :
    Calls Tryz.prog 45 #[.slice (some ⟨g, 0, none⟩) n cap, .int .i64 k] w fun e w' => e = .returned (.int .i64 ((k + n : Nat) : Int)) ∧
      w'.ownsRow base 9 1 (.slice (some ⟨g, 0, none⟩) n cap) n (marksV k n) ∧ w.grownBy w' (some g) := by
  have hlen : xs.length = n := by simpa using hown.1
  have HLEN := Lib.hid hlen
  clear hlen
  go_enter Tryz.func45, Tryz.ntmps45
  go_wp2
  go_loopw [1, 5] (fun kk i wr => ∃ j : Nat, j ≤ n ∧ i = .int .i64 j ∧ kk = .int .i64 ((k : Int) + j) ∧ wr.ownsRow base 9 1 (.slice (some ⟨g, 0, none⟩) n cap) n (markL k j xs) ∧ w.grownBy wr (some g)) (fun _ i _ => n - (intOf i).toNat)
  case atStart => exact ⟨0, Nat.zero_le _, rfl, by simp, by rw [markL_zero]; exact hown, World.grownBy.refl _ _⟩
  case round =>
    clear hown
    obtain ⟨j, hj, rfl, rfl, hown, hgr⟩ := hrel
    by_cases hlt : j < n
    · have hm := cMarkText (k + j) wr (by omega) (by omega)
      rw [show ((k + j : Nat) : Int) = (k : Int) + (j : Int) from by omega] at hm
      have HM := Lib.hid hm
      clear hm
      go_wp2_with fail
      refine HM.out.mono ?_
      rintro e w1 ⟨rfl, hb1⟩
      have hown1 := hown.kept (below_grown hb1 none) (by simp [Value.ownBlock])
      obtain ⟨v4, c4⟩ : ∃ v, w1.cell? ⟨g, j, none⟩ = some v := by
        have hl : j < (markL k j xs).length := by rw [hown1.1]; omega
        exact ⟨_, (hown1.cellAt j (by omega)).trans (List.getElem?_eq_getElem hl)⟩
      have f4 := hown1.frozenAt j
      have hst := hown1.stored j (.string (markB (k + j)))
      rw [markL_step k j xs (by have := HLEN.out; omega)] at hst
      have hgr1 := (hgr.trans (below_grown hb1 (some g))).trans hst.2
      have hst1 := hst.1
      clear hst hown1 hown hgr HM hb1
      go_wp2
      go_roundw
      case rel => exact ⟨j + 1, by omega, by go_num, by go_num, hst1, hgr1⟩
      case measure => simp [intOf]; omega
    · obtain rfl : j = n := by omega
      rw [markL_all k xs j HLEN.out.symm] at hown
      go_wp2
      go_ret
      exact ⟨ret_int (by omega), hown, hgr⟩

theorem cMarkS_none (A : Option Addr) (cap : Nat) (k : Int) (w : World) :
    Calls Tryz.prog 45 #[.slice A 0 cap, .int .i64 k] w fun e w' => e = .returned (.int .i64 k) ∧ w = w' := by
  go_enter Tryz.func45, Tryz.ntmps45
  go_wp2
  refine wp_loop_rounds 1 ?_
  rw [rounds_succ]
  go_wp2
  go_ret
  exact ⟨rfl, rfl⟩
end
end Go.Proofs.YtglmibmjbignbaaGreatDoor
