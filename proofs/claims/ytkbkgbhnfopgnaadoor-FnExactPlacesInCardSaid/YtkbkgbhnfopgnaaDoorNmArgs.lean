/-
  What a walk is told of a name that came in by value, and of a slice of names that came in.
-/
import Derived.Test.YtkbkgbhnfopgnaaDoorNmPlain
import Derived.Test.YtkbkgbhnfopgnaaDoorMq1
import Derived.Deep.Slices
import Derived.Deep.Fields
import Derived.Deep.Strs
import Derived.ChangeSame
import Derived.Lib.SmallJoins
import Derived.Below
import Derived.WalkKit
import Derived.Test.YtkbkgbhnfopgnaaDoorChecked
namespace Go.Proofs.YtkbkgbhnfopgnaaDoor
set_option linter.unusedVariables false
open Go.ChangeShapes Go.WideShapes Go.Deep Go.RowKit

theorem exists_listN {α : Type} {Q : Nat → α → Prop} : ∀ (n : Nat), (∀ i, i < n → ∃ p, Q i p) → ∃ l : List α, l.length = n ∧ ∀ (i : Nat) p, l[i]? = some p → Q i p
  | 0, _ => ⟨[], rfl, fun i p h => by simp at h⟩
  | n + 1, h => by
    obtain ⟨l, hl, hq⟩ := exists_listN n (fun i hi => h i (by omega))
    obtain ⟨p, hp⟩ := h n (by omega)
    refine ⟨l ++ [p], by simp [hl], fun i q hi => ?_⟩
    by_cases hlt : i < n
    · rw [List.getElem?_append_left (by omega)] at hi; exact hq i q hi
    · rw [List.getElem?_append_right (by omega)] at hi
      have hil := (List.getElem?_eq_some_iff.1 hi).1
      simp at hil
      have hin : i = n := by omega
      subst hin
      rw [hl, Nat.sub_self] at hi
      obtain rfl : p = q := by simpa using hi
      exact hp
theorem array5 {α : Type} {cs : Array α} (h : cs.size = 5) : ∃ c0 c1 c2 c3 c4, cs = #[c0, c1, c2, c3, c4] := by
  obtain ⟨l⟩ := cs
  match l, h with
  | [c0, c1, c2, c3, c4], _ => exact ⟨c0, c1, c2, c3, c4, rfl⟩
theorem list5A {α : Type} {cs : List α} (h : cs.length = 5) : ∃ c0 c1 c2 c3 c4, cs = [c0, c1, c2, c3, c4] := by
  match cs, h with
  | [c0, c1, c2, c3, c4], _ => exact ⟨c0, c1, c2, c3, c4, rfl⟩
section
variable {H : Type} {enc : TypeId × Value → H} {w : World} {base : Nat} {held : Bool} {spare : Nat → Bool}
set_option maxRecDepth 100000 in
theorem trod_nm {fuel : Nat} {cs : List Value} {d : DataW H × List MemPlace} (hl : cs.length = 5) (hf : DataW.trod enc Tryd.prog w base spare held fuel 93 cs = some d) :
    ∃ q : Nm, cs = [.string q.t, .string q.l, .int .i64 q.s, .int .i64 q.f, .int .i64 q.u] ∧ q.t.size ≤ maxLen ∧ q.l.size ≤ maxLen ∧ (Lit.int .i64 q.s).wf = true ∧ (Lit.int .i64 q.f).wf = true ∧ (Lit.int .i64 q.u).wf = true := by
  obtain ⟨c0, c1, c2, c3, c4, rfl⟩ := list5A hl
  obtain ⟨y0, y1, y2, y3, n, _, _, h0, h1, h2, h3⟩ := Joins.trod_struct4 Tryd.underlying93 hf
  have k0 : (Tryd.prog).cellsOf 9 = 1 := by kernel_rfl
  have k1 : (Tryd.prog).cellsOf 2 = 1 := by kernel_rfl
  have k2 : (Tryd.prog).cellsOf 23 = 2 := by kernel_rfl
  simp only [k0, k1, k2, List.drop_zero, List.drop_succ_cons, List.take_succ_cons, List.take_zero] at h0 h1 h2 h3
  obtain ⟨z0, z1, n', _, _, g0, g1⟩ := trod_struct2 Tryd.underlying23 h3
  simp only [k1, List.drop_zero, List.drop_succ_cons, List.take_succ_cons, List.take_zero] at g0 g1
  obtain ⟨s, hs, _, hsl⟩ := DataW.trod_string Tryd.underlying9 h0
  obtain ⟨s', hs', _, hsl'⟩ := DataW.trod_string Tryd.underlying9 h1
  obtain ⟨u, hu, _, wu⟩ := DataW.trod_int Tryd.underlying2 h2
  obtain ⟨f, hff, _, wf⟩ := DataW.trod_int Tryd.underlying2 g0
  obtain ⟨t, ht, _, wt⟩ := DataW.trod_int Tryd.underlying2 g1
  simp at hs hs' hu hff ht
  subst hs; subst hs'; subst hu; subst hff; subst ht
  exact ⟨⟨s, s', u, f, t⟩, rfl, hsl, hsl', wu, wf, wt⟩
set_option maxRecDepth 100000 in
theorem openName {r : Reach} {b0 : Nat} {v : Value} {d : DataW H} {p : List MemPlace} (hv : Value.okWide Tryd.prog w r b0 93 v) (h : DataW.Trod enc Tryd.prog w base spare held 93 v d p) :
    ∃ q : Nm, v = nmA q ∧ q.t.size ≤ maxLen ∧ q.l.size ≤ maxLen ∧ (Lit.int .i64 q.s).wf = true ∧ (Lit.int .i64 q.f).wf = true ∧ (Lit.int .i64 q.u).wf = true := by
  obtain ⟨cs, rfl, hsz⟩ := okWide_struct Tryd.underlying93 hv
  have hC : (Tryd.prog).cellsOf 93 = 5 := by kernel_rfl
  obtain ⟨fuel, hf⟩ := h
  obtain ⟨q, hq, r1⟩ := trod_nm (cs := cs.toList) (by rw [Array.length_toList]; exact hsz.trans hC) (by simpa [Value.cells] using hf)
  refine ⟨q, ?_, r1⟩
  have : cs = #[.string q.t, .string q.l, .int .i64 q.s, .int .i64 q.f, .int .i64 q.u] := by rw [← Array.toList_inj, hq]
  rw [this]
set_option maxRecDepth 100000 in
theorem openNames {r : Reach} {b0 : Nat} {v : Value} {d : DataW H} {p : List MemPlace} (hv : Value.okWide Tryd.prog w r b0 24 v) (h : DataW.Trod enc Tryd.prog w base (fun _ => true) held 24 v d p) :
    ∃ (a : Option Addr) (len cap : Nat) (xs : List Nm), v = .slice a len cap ∧ len ≤ maxLen ∧ (∀ e ∈ xs, e.t.size ≤ maxLen ∧ e.l.size ≤ maxLen) ∧ NmAt w w.heap.size a len xs := by
  obtain ⟨a, len, cap, rfl⟩ := okWide_slice Tryd.underlying24 hv
  obtain ⟨fuel, hf⟩ := h
  rcases open_slice Tryd.underlying24 hf with ⟨hcs, _⟩ | ⟨x, l, c, m, n, D, Pl, hcs, _, hl, hm, hmm, _, hi⟩
  · simp [Value.cells] at hcs
    obtain ⟨rfl, rfl, rfl⟩ := hcs
    exact ⟨none, 0, 0, [], rfl, Nat.zero_le _, by simp, rfl, fun h => absurd h (by omega)⟩
  · simp [Value.cells] at hcs
    obtain ⟨rfl, rfl, rfl⟩ := hcs
    have hC : (Tryd.prog).cellsOf 93 = 5 := by kernel_rfl
    have hm2 : m = cap := by simpa using hmm
    have key0 : ∀ i, i < len → ∃ q : Nm, (w.cell? ((x.add (i * 5)).add 0) = some (.string q.t) ∧ w.cell? ((x.add (i * 5)).add 1) = some (.string q.l) ∧ w.cell? ((x.add (i * 5)).add 2) = some (.int .i64 q.s) ∧ w.cell? ((x.add (i * 5)).add 3) = some (.int .i64 q.f) ∧ w.cell? ((x.add (i * 5)).add 4) = some (.int .i64 q.u)) ∧ q.t.size ≤ maxLen ∧ q.l.size ≤ maxLen := by
      intro i hil
      obtain ⟨cs', hc, ht⟩ := hi i (by omega)
      rw [hC] at hc
      obtain ⟨_, hcl, hat⟩ := World.cells?_some hc
      obtain ⟨q, rfl, h1, h2, _⟩ := trod_nm hcl ht
      have hc0 := hat 0 (by omega)
      have hc1 := hat 1 (by omega)
      have hc2 := hat 2 (by omega)
      have hc3 := hat 3 (by omega)
      have hc4 := hat 4 (by omega)
      exact ⟨q, ⟨hc0, hc1, hc2, hc3, hc4⟩, h1, h2⟩
    obtain ⟨b, o, spot⟩ := x
    have key : ∀ i, i < len → ∃ q : Nm, ∃ b' o', (some ⟨b, o, spot⟩ : Option Addr) = some ⟨b', o', none⟩ ∧ b' < w.heap.size ∧ NmCell w b' (o' + i * 5) q ∧ q.t.size ≤ maxLen ∧ q.l.size ≤ maxLen := by
      intro i hil
      have hsp : spot = none := by
        obtain ⟨_, ⟨h0, _⟩, _⟩ := key0 0 (by omega)
        simpa [Addr.add] using World.cell?_spot h0
      subst hsp
      obtain ⟨q, ⟨h0, h1, h2, h5, h6⟩, h3, h4⟩ := key0 i hil
      rw [add_plain', add_plain', Nat.add_zero] at h0
      rw [add_plain', add_plain'] at h1 h2 h5 h6
      exact ⟨q, b, o, rfl, World.block_lt_of_cell? w _ h0, ⟨h0, h1, h2, h5, h6⟩, h3, h4⟩
    obtain ⟨zs, hzl, hz⟩ := exists_listN len key
    refine ⟨some ⟨b, o, spot⟩, len, cap, zs, rfl, by omega, fun e he => ?_, hzl.symm, fun hp => ?_⟩
    · obtain ⟨i, hi⟩ := List.mem_iff_getElem?.1 he
      obtain ⟨_, _, _, _, _, h3, h4⟩ := hz i e hi
      exact ⟨h3, h4⟩
    · obtain ⟨b', o', e1, e2, _⟩ := hz 0 zs[0] (List.getElem?_eq_getElem (by omega))
      refine ⟨b', o', e1, e2, fun j e he => ?_⟩
      obtain ⟨b2, o2, e3, _, e4, _⟩ := hz j e he
      rw [e1] at e3
      injection e3 with e3
      injection e3 with h1 h2
      subst h1; subst h2
      exact e4
end
end Go.Proofs.YtkbkgbhnfopgnaaDoor
