/-
  The mathematics of the law of years, and what holds while its dice rolls.
-/
import Derived.Test.YthlajgkelggnkaaDrawPairs
import Derived.Test.YthlajgkelggnkaaDice
import Derived.Test.YthlajgkelggnkaaDrawDM
namespace Go.Proofs.Ythlajgkelggnkaa
set_option linter.unusedVariables false
open Go.RowKit

theorem chain_of_sep {xs : List Sp} (h : Sep xs) : ∀ n, n ≤ xs.length → chainB xs n = true
  | 0, _ => rfl
  | n + 1, hn => by
    have hs := (sep_iff xs).1 h
    refine chainB_step (chain_of_sep h n (by omega)) ?_
    have hp : xs[n]? = some (xs[n]'(by omega)) := List.getElem?_eq_getElem _
    have hb := hs.1 _ (List.mem_of_getElem? hp)
    cases n with
    | zero => rw [stepB_zero hp]; exact spB_mk hb.1 hb.2.1 hb.2.2
    | succ k =>
      have hq : xs[k]? = some (xs[k]'(by omega)) := List.getElem?_eq_getElem _
      have hg := (List.pairwise_iff_getElem.1 hs.2) k (k + 1) (by omega) (by omega) (by omega)
      rw [stepB_succ hp hq, spB_mk hb.1 hb.2.1 hb.2.2, decide_eq_true hg]; rfl
theorem years_of_sep {xs : List Sp} (h : Sep xs) (hl : xs.length ≤ 12) : yearsB xs = true := by
  unfold yearsB; rw [decide_eq_true hl, chain_of_sep h _ (Nat.le_refl _)]; rfl
theorem set_bad {both : Bool} {xs ys zs : List Sp} {c : Int} (h : SetIs both xs ys c zs) (hb : (yearsB xs && yearsB ys) = false) : c = 1 ∧ zs = [] := by
  rcases h with ⟨_, h1, h2⟩ | ⟨h1, _⟩
  · exact ⟨h1, h2⟩
  · rw [hb] at h1; cases h1
theorem set_ok {both : Bool} {xs ys zs : List Sp} {c : Int} (h : SetIs both xs ys c zs) (hb : (yearsB xs && yearsB ys) = true) : c = 3 ∨ (c = 0 ∧ yearsB zs = true ∧ Upto both xs ys zs 3001) := by
  rcases h with ⟨h1, _⟩ | ⟨_, f, hf, ⟨_, h2, _⟩ | ⟨h1, h2, h3⟩⟩
  · rw [hb] at h1; cases h1
  · exact .inl h2
  · subst h3; exact .inr ⟨h2, years_of_sep hf.1 h1, hf⟩
theorem set_has {both : Bool} {xs ys zs : List Sp} (h : Upto both xs ys zs 3001) (z : Int) (h0 : 500 ≤ z) (h1 : z ≤ 1500) : hasB zs z = askB both xs ys z := by
  rw [Bool.eq_iff_iff, inB_mem, h.2 z]
  constructor
  · exact fun h => h.1
  · exact fun h => ⟨h, by omega, by omega⟩
theorem SpanAt.dice {w w' : World} {D n : Nat} {A : Option Addr} {xs : List Sp} (h : SpanAt w D A n xs) (hg : w.grownBy w' (some D)) : SpanAt w' D A n xs :=
  ⟨h.1, fun k p hp => by
    obtain ⟨b, o, hA, hlt, h1, h2⟩ := h.2 k p hp
    exact ⟨b, o, hA, hlt, hg.cell h1 (by simp; omega), hg.cell h2 (by simp; omega)⟩⟩

/-- What holds while the dice at block D rolls: four lists below it, its own cells, the code. -/
structure Roll (w0 : World) (D : Nat) (A : Option Addr) (len cap : Nat) (A1 A2 A3 A4 : Option Addr) (n1 n2 n3 n4 : Nat) (xs ys us ws : List Sp) (w : World) : Prop where
  s1 : SpanAt w D A1 n1 xs
  s2 : SpanAt w D A2 n2 ys
  s3 : SpanAt w D A3 n3 us
  s4 : SpanAt w D A4 n4 ws
  dice : ∃ (j : Nat) (y : Int), j ≤ len ∧ TabAt w D 65 (diceCells A len cap j y)
  code : CodeAt w D A len
  below : Below w0.heap.size w0 w
  le : w0.heap.size ≤ D
theorem Roll.lt {w0 w : World} {D : Nat} {A A1 A2 A3 A4 : Option Addr} {len cap n1 n2 n3 n4 : Nat} {xs ys us ws : List Sp} (h : Roll w0 D A len cap A1 A2 A3 A4 n1 n2 n3 n4 xs ys us ws w) : D < w.heap.size := by
  obtain ⟨j, y, _, hT⟩ := h.dice; exact hT.lt
theorem Roll.after {w0 w w' : World} {D : Nat} {A A1 A2 A3 A4 : Option Addr} {len cap n1 n2 n3 n4 : Nat} {xs ys us ws : List Sp} (h : Roll w0 D A len cap A1 A2 A3 A4 n1 n2 n3 n4 xs ys us ws w) (hb : Below w.heap.size w w') : Roll w0 D A len cap A1 A2 A3 A4 n1 n2 n3 n4 xs ys us ws w' := by
  have hl := h.lt
  obtain ⟨j, y, hj, hT⟩ := h.dice
  have hbD : Below D w w' := hb.mono (by omega)
  exact ⟨h.s1.below hbD, h.s2.below hbD, h.s3.below hbD, h.s4.below hbD, ⟨j, y, hj, (hb.block D hl).trans hT⟩, fun hp => by
    obtain ⟨b, o, hA, hne, hlt, hc⟩ := h.code hp
    refine ⟨b, o, hA, hne, Nat.lt_of_lt_of_le hlt hb.size, fun j hj => ?_⟩
    obtain ⟨z, h0, h1, h2⟩ := hc j hj
    exact ⟨z, h0, h1, (hb.cell (p := ⟨b, o + j, none⟩) hlt).trans h2⟩, h.below.trans (hb.mono h.below.size), h.le⟩
theorem Roll.rolled {w0 w w' : World} {D : Nat} {A A1 A2 A3 A4 : Option Addr} {len cap n1 n2 n3 n4 : Nat} {xs ys us ws : List Sp} (h : Roll w0 D A len cap A1 A2 A3 A4 n1 n2 n3 n4 xs ys us ws w) (hg : w.grownBy w' (some D)) {j : Nat} {y : Int} (hj : j ≤ len) (hT : TabAt w' D 65 (diceCells A len cap j y)) : Roll w0 D A len cap A1 A2 A3 A4 n1 n2 n3 n4 xs ys us ws w' :=
  ⟨h.s1.dice hg, h.s2.dice hg, h.s3.dice hg, h.s4.dice hg, ⟨j, y, hj, hT⟩, h.code.kept hg, h.below.grown hg h.below.size (fun z hz => by cases hz; exact h.le), h.le⟩
end Go.Proofs.Ythlajgkelggnkaa
