/-
  What a walk is told of a slice of endings that came in.
-/
import Derived.Test.YtippjomkbpiliaaEnPlain
import Derived.Deep.Slices
import Derived.Deep.Fields
import Derived.Deep.Strs
import Derived.ChangeSame
import Derived.Lib.SmallJoins
import Derived.Below
import Derived.WalkKit
import Derived.Test.YtippjomkbpiliaaChecked
namespace Go.Proofs.Ytippjomkbpiliaa
set_option linter.unusedVariables false
open Go.ChangeShapes Go.WideShapes Go.Deep Go.RowKit

theorem exists_listE {α : Type} {Q : Nat → α → Prop} : ∀ (n : Nat), (∀ i, i < n → ∃ p, Q i p) → ∃ l : List α, l.length = n ∧ ∀ (i : Nat) p, l[i]? = some p → Q i p
  | 0, _ => ⟨[], rfl, fun i p h => by simp at h⟩
  | n + 1, h => by
    obtain ⟨l, hl, hq⟩ := exists_listE n (fun i hi => h i (by omega))
    obtain ⟨p, hp⟩ := h n (by omega)
    refine ⟨l ++ [p], by simp [hl], fun i q hi => ?_⟩
    by_cases hlt : i < n
    · rw [List.getElem?_append_left (by omega)] at hi; exact hq i q hi
    · rw [List.getElem?_append_right (by omega)] at hi
      have hil := (List.getElem?_eq_some_iff.1 hi).1
      simp at hil
      have hin : i = n := by omega
      subst hin
      rw [hl, Nat.sub_self] at hi
      obtain rfl : p = q := by simpa using hi
      exact hp
section
variable {H : Type} {enc : TypeId × Value → H} {w : World} {base : Nat} {held : Bool}
set_option maxRecDepth 100000 in
theorem openEndings {r : Reach} {b0 : Nat} {v : Value} {d : DataW H} {p : List MemPlace} (hv : Value.okWide Try.prog w r b0 39 v) (h : DataW.Trod enc Try.prog w base (fun _ => true) held 39 v d p) :
    ∃ (a : Option Addr) (len cap : Nat) (xs : List En), v = .slice a len cap ∧ len ≤ maxLen ∧ (∀ e ∈ xs, e.1.size ≤ maxLen ∧ e.2.1.size ≤ maxLen) ∧ EnAt w w.heap.size a len xs := by
  obtain ⟨a, len, cap, rfl⟩ := okWide_slice Try.underlying39 hv
  obtain ⟨fuel, hf⟩ := h
  rcases open_slice Try.underlying39 hf with ⟨hcs, _⟩ | ⟨x, l, c, m, n, D, Pl, hcs, _, hl, hm, hmm, _, hi⟩
  · simp [Value.cells] at hcs
    obtain ⟨rfl, rfl, rfl⟩ := hcs
    exact ⟨none, 0, 0, [], rfl, Nat.zero_le _, by simp, rfl, fun h => absurd h (by omega)⟩
  · simp [Value.cells] at hcs
    obtain ⟨rfl, rfl, rfl⟩ := hcs
    have hC : (Try.prog).cellsOf 73 = 3 := by kernel_rfl
    have hm2 : m = cap := by simpa using hmm
    have key0 : ∀ i, i < len → ∃ q : En, (w.cell? ((x.add (i * 3)).add 0) = some (.string q.1) ∧ w.cell? ((x.add (i * 3)).add 1) = some (.string q.2.1) ∧ w.cell? ((x.add (i * 3)).add 2) = some (.int .i64 q.2.2)) ∧ q.1.size ≤ maxLen ∧ q.2.1.size ≤ maxLen := by
      intro i hil
      obtain ⟨cs', hc, ht⟩ := hi i (by omega)
      rw [hC] at hc
      obtain ⟨_, hcl, hat⟩ := World.cells?_some hc
      obtain ⟨y0, y1, y2, n', _, _, h0, h1, h2⟩ := trod_struct3 Try.underlying73 ht
      have hc0 := hat 0 (by omega)
      have hc1 := hat 1 (by omega)
      have hc2 := hat 2 (by omega)
      match cs', hcl with
      | [c0, c1, c2], _ =>
        have k0 : (Try.prog).cellsOf 9 = 1 := by kernel_rfl
        have k1 : (Try.prog).cellsOf 2 = 1 := by kernel_rfl
        simp only [k0, k1, List.drop_zero, List.drop_succ_cons, List.take_succ_cons, List.take_zero] at h0 h1 h2
        obtain ⟨s, hs, _, hsl⟩ := DataW.trod_string Try.underlying9 h0
        obtain ⟨s', hs', _, hsl'⟩ := DataW.trod_string Try.underlying9 h1
        obtain ⟨u, hu, _, _⟩ := DataW.trod_int Try.underlying2 h2
        simp at hs hs' hu
        subst hs; subst hs'; subst hu
        exact ⟨(s, s', u), ⟨hc0, hc1, hc2⟩, hsl, hsl'⟩
    obtain ⟨b, o, spot⟩ := x
    have key : ∀ i, i < len → ∃ q : En, ∃ b' o', (some ⟨b, o, spot⟩ : Option Addr) = some ⟨b', o', none⟩ ∧ b' < w.heap.size ∧ EnCell w b' (o' + i * 3) q ∧ q.1.size ≤ maxLen ∧ q.2.1.size ≤ maxLen := by
      intro i hil
      have hsp : spot = none := by
        obtain ⟨_, ⟨h0, _, _⟩, _⟩ := key0 0 (by omega)
        simpa [Addr.add] using World.cell?_spot h0
      subst hsp
      obtain ⟨q, ⟨h0, h1, h2⟩, h3, h4⟩ := key0 i hil
      rw [add_plain', add_plain', Nat.add_zero] at h0
      rw [add_plain', add_plain'] at h1 h2
      exact ⟨q, b, o, rfl, World.block_lt_of_cell? w _ h0, ⟨h0, h1, h2⟩, h3, h4⟩
    obtain ⟨zs, hzl, hz⟩ := exists_listE len key
    refine ⟨some ⟨b, o, spot⟩, len, cap, zs, rfl, by omega, fun e he => ?_, hzl.symm, fun hp => ?_⟩
    · obtain ⟨i, hi⟩ := List.mem_iff_getElem?.1 he
      obtain ⟨_, _, _, _, _, h3, h4⟩ := hz i e hi
      exact ⟨h3, h4⟩
    · obtain ⟨b', o', e1, e2, _⟩ := hz 0 zs[0] (List.getElem?_eq_getElem (by omega))
      refine ⟨b', o', e1, e2, fun j e he => ?_⟩
      obtain ⟨b2, o2, e3, _, e4, _⟩ := hz j e he
      rw [e1] at e3
      injection e3 with e3
      injection e3 with h1 h2
      subst h1; subst h2
      exact e4
end
end Go.Proofs.Ytippjomkbpiliaa
