/-
  The contracts of the laws' toRule and eqRule.
-/
import Derived.Test.YtnodnjaajaemcabRuleArgs
import Derived.BigQuiet
import Derived.Deep.QuietTactic
namespace Go.Proofs.Ytnodnjaajaemcab
set_option linter.unusedVariables false
open Go.RowKit

theorem ownsRow_block {w w' : World} {base g n c s : Nat} {e : TypeId} {xs : List Value} (h : w.ownsRow base e s (.slice (some ⟨g, 0, none⟩) n c) n xs) (hb : w'.heap[g]? = w.heap[g]?) : w'.ownsRow base e s (.slice (some ⟨g, 0, none⟩) n c) n xs := by
  refine ⟨h.1, ?_⟩
  rcases h.2 with h2 | ⟨g', cap, cur, h1, h2, h3, h4⟩
  · exact .inl h2
  · obtain rfl : g = g' := by injection h1 with h1; injection h1 with h1; injection h1
    exact .inr ⟨g, cap, cur, h1, h2, hb.trans h3, h4⟩
theorem numAt_own {w : World} {b g n c : Nat} {xs : List Int} (h : w.ownsRow b 2 1 (.slice (some ⟨g, 0, none⟩) n c) n (intV xs)) : NumAt w w.heap.size (some ⟨g, 0, none⟩) n xs := by
  have hl : n = xs.length := by have := h.1; rw [intV_len] at this; omega
  refine ⟨hl, fun _ => ⟨g, 0, rfl, (h.lt _ rfl).2, fun j x hx => ?_⟩⟩
  rw [Nat.zero_add]
  exact (h.cellAt j (by have := (List.getElem?_eq_some_iff.1 hx).1; omega)).trans (intV_at _ _ _ hx)
theorem four_sets (w : World) (a b c d : Addr) (u v x y : Value) (g : Nat) (ha : g ≠ a.block) (hb : g ≠ b.block) (hc : g ≠ c.block) (hd : g ≠ d.block) :
    ((((w.setCell a u).setCell b v).setCell c x).setCell d y).heap[g]? = w.heap[g]? := by
  rw [Below.heap_setCell _ _ _ _ hd, Below.heap_setCell _ _ _ _ hc, Below.heap_setCell _ _ _ _ hb, Below.heap_setCell _ _ _ _ ha]

/-- A rule of one's own comes back: its numbers in a new block, its text as it was. -/
def ToPost (n : Nat) (r : Ru) (w : World) (e : Ending) (w' : World) : Prop :=
  ∃ g, e = .returned (.agg #[.slice (some ⟨g, 0, none⟩) n n, .string r.2]) ∧ w.heap.size ≤ g ∧ g < w'.heap.size ∧ NumAt w' w'.heap.size (some ⟨g, 0, none⟩) n r.1 ∧
    (0 < n → w'.ownsRow g 2 1 (.slice (some ⟨g, 0, none⟩) n n) n (intV r.1)) ∧ Below w.heap.size w w'

set_option maxHeartbeats 1000000 in
theorem cToRule (A : Option Addr) (n c : Nat) (r : Ru) (w : World) (hbig : n ≤ 1048576) (h : NumAt w w.heap.size A n r.1) :
    Calls Try.prog 20 #[.agg #[.slice A n c, .string r.2]] w (ToPost n r w) := by
  obtain ⟨xs, s⟩ := r
  simp only at h ⊢
  obtain ⟨B0, K0, K1, K2⟩ := box3_facts w (.slice A n c) (.string s)
  have hz := box3_size w (.slice A n c) (.string s)
  have C := Lib.hid (tToI2 A n c xs (box3 w (.slice A n c) (.string s)) hbig ((h.below B0 (Nat.le_refl _)).more B0.size))
  clear h
  go_enter Try.func20, Try.ntmps20
  go_wp2_with fail
  refine C.out.mono ?_
  rintro e w1 ⟨rfl, T1, own1, hlt1, hb1⟩
  obtain ⟨l0, a0, a1⟩ := K0.below hb1
  obtain ⟨⟨l1, b0, b1⟩, fb0, fb1⟩ := K1.below hb1
  obtain ⟨⟨l2, d0, d1⟩, fd0, fd1⟩ := K2.below hb1
  rw [hz] at T1 own1 hlt1 ⊢
  have B1 := B0.trans (hb1.mono B0.size)
  have HB := Lib.hid (((((B1.setCell (p := ⟨w.heap.size + 1 + 1, 0, none⟩) (by simp; omega) (.slice (some ⟨w.heap.size + 1 + 1 + 1, 0, none⟩) n n)).setCell (p := ⟨w.heap.size + 1 + 1, 1, none⟩) (by simp; omega) (.string s)).setCell (p := ⟨w.heap.size + 1, 0, none⟩) (by simp) (.slice (some ⟨w.heap.size + 1 + 1 + 1, 0, none⟩) n n)).setCell (p := ⟨w.heap.size + 1, 1, none⟩) (by simp) (.string s)))
  have HT := Lib.hid T1
  have HO := Lib.hid own1
  clear T1 own1 hb1 B0 B1 K0 K1 K2 C hz
  go_wp2_with fail
  refine bodyPost_ret (v := .agg #[.slice (some ⟨w.heap.size + 1 + 1 + 1, 0, none⟩) n n, .string s]) (by simp [results, Try.results20, go_sem, b0, b1]) rfl ?_
  have own2 := fun hp => ownsRow_block (HO.out hp) (four_sets w1 ⟨w.heap.size + 1 + 1, 0, none⟩ ⟨w.heap.size + 1 + 1, 1, none⟩ ⟨w.heap.size + 1, 0, none⟩ ⟨w.heap.size + 1, 1, none⟩
    (.slice (some ⟨w.heap.size + 1 + 1 + 1, 0, none⟩) n n) (.string s) (.slice (some ⟨w.heap.size + 1 + 1 + 1, 0, none⟩) n n) (.string s) (w.heap.size + 1 + 1 + 1) (by simp) (by simp) (by simp; omega) (by simp; omega))
  refine ⟨_, rfl, by omega, by simpa using hlt1, ⟨HT.out.1, fun hp => (numAt_own (own2 hp)).2 hp⟩, own2, HB.out⟩

set_option maxHeartbeats 1000000 in
theorem cEqRule (A A' : Option Addr) (n c c' B C : Nat) (r : Ru) (w : World) (hbig : n ≤ 1048576) (h1 : NumAt w B A n r.1) (h2 : NumAt w C A' n r.1) (hB : B ≤ w.heap.size) (hC : C ≤ w.heap.size) :
    Calls Try.prog 23 #[.agg #[.slice A n c, .string r.2], .agg #[.slice A' n c', .string r.2]] w fun e w' => e = .returned (.bool true) ∧ Below w.heap.size w w' := by
  obtain ⟨xs, s⟩ := r
  simp only at h1 h2 ⊢
  have B0 : Below w.heap.size w ((w.alloc (.cells #[.slice A n c, .string s] 44)).alloc (.cells #[.slice A' n c', .string s] 44)) := ((Below.refl _ _).alloc (Nat.le_refl _) _).alloc (by simp) _
  have K1 := (PairAt.new w (.slice A n c) (.string s) 44).alloc (.cells #[.slice A' n c', .string s] 44)
  have K2 := PairAt.new (w.alloc (.cells #[.slice A n c, .string s] 44)) (.slice A' n c') (.string s) 44
  have hz : (w.alloc (.cells #[.slice A n c, .string s] 44)).heap.size = w.heap.size + 1 := by simp
  rw [hz] at K2
  have CE := Lib.hid (tEqI A A' c c' n B C xs _ hbig (h1.below B0 hB) (h2.below B0 hC))
  have hd : (s.toList == s.toList) = true := by simp
  have HB := Lib.hid B0
  clear h1 h2 B0 hz
  go_enter Try.func23, Try.ntmps23
  go_wp2_with (go_at_call 11; refine CE.out.mono ?_; rintro e w' ⟨rfl, m, rfl⟩)
  go_ret
  exact ⟨rfl, ⟨HB.out.os, HB.out.tape, HB.out.output, HB.out.size, HB.out.block⟩⟩

/-- What a drawn region with two pairs of cells keeps. -/
def TwoR (A0 : World) (b1 : Nat) (u1 v1 : Value) (b2 : Nat) (u2 v2 : Value) (W : World) : Prop :=
  W.cell? ⟨b1, 0, none⟩ = some u1 ∧ W.cell? ⟨b1, 1, none⟩ = some v1 ∧ W.cell? ⟨b2, 0, none⟩ = some u2 ∧ W.cell? ⟨b2, 1, none⟩ = some v2 ∧ b1 < W.heap.size ∧ b2 < W.heap.size ∧ Below A0.heap.size A0 W
theorem TwoR.keep {A0 W W' : World} {b1 b2 : Nat} {u1 v1 u2 v2 : Value} (h : TwoR A0 b1 u1 v1 b2 u2 v2 W) (hb : Below W.heap.size W W') : TwoR A0 b1 u1 v1 b2 u2 v2 W' := by
  obtain ⟨h1, h2, h3, h4, h5, h6, h7⟩ := h
  exact ⟨(hb.cell (p := ⟨b1, 0, none⟩) h5).trans h1, (hb.cell (p := ⟨b1, 1, none⟩) h5).trans h2, (hb.cell (p := ⟨b2, 0, none⟩) h6).trans h3, (hb.cell (p := ⟨b2, 1, none⟩) h6).trans h4, Nat.lt_of_lt_of_le h5 hb.size, Nat.lt_of_lt_of_le h6 hb.size, h7.trans (hb.mono h7.size)⟩
theorem TwoR.start {w : World} {b1 b2 : Nat} {u1 v1 u2 v2 : Value} (h1 : PairAt w b1 u1 v1) (h2 : PairAt w b2 u2 v2) : TwoR w b1 u1 v1 b2 u2 v2 w.drew :=
  ⟨h1.2.1, h1.2.2, h2.2.1, h2.2.2, h1.1, h2.1, (Below.refl _ _).drew⟩
end Go.Proofs.Ytnodnjaajaemcab
