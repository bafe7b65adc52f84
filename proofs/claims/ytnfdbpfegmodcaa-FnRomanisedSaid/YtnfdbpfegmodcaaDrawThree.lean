/-
  The contracts of spec.DrawRomanise, DrawSignsCovered and DrawAddRule.
-/
import Derived.Test.YtnfdbpfegmodcaaDrawTable
import Derived.Test.YtnfdbpfegmodcaaDrawSigns
namespace Go.Proofs.Ytnfdbpfegmodcaa
set_option linter.unusedVariables false
open Go.RowKit

theorem CodeIn.belowG {w w' : World} {A : Option Addr} {len : Nat} (h : CodeIn w A len) (hb : Below w.heap.size w w') : CodeIn w' A len := fun hp => by
  obtain ⟨b, o, hA, hlt, hc⟩ := h hp
  refine ⟨b, o, hA, Nat.lt_of_lt_of_le hlt hb.size, fun j hj => ?_⟩
  obtain ⟨z, h0, h1, h2⟩ := hc j hj
  exact ⟨z, h0, h1, (hb.cell (by exact hlt)).trans h2⟩
theorem DTab.low {w : World} {R R' : Nat} {v : Value} {es : List El} (h : DTab w R v es) (hR : R' ≤ R) : DTab w R' v es := ⟨rowBase h.row hR, fun e he => rowBase (h.inner e he) hR⟩
/-- A drawn table, from its k-th rule on. -/
structure TabD (w : World) (R g c k : Nat) (es : List El) : Prop where
  len : es.length ≤ 31
  k4 : k ≤ 4
  kl : k ≤ es.length
  lc : es.length ≤ c
  cm : c ≤ maxLen
  tab : DTab w R (.slice (some ⟨g, 0, none⟩) es.length c) es
  small : SmlR es
theorem TabD.below {w w' : World} {R g c k : Nat} {es : List El} (h : TabD w R g c k es) (hb : Below w.heap.size w w') : TabD w' R g c k es := ⟨h.len, h.k4, h.kl, h.lc, h.cm, h.tab.below hb, h.small⟩
theorem TabD.low {w : World} {R R' g c k : Nat} {es : List El} (h : TabD w R g c k es) (hR : R' ≤ R) : TabD w R' g c k es := ⟨h.len, h.k4, h.kl, h.lc, h.cm, h.tab.low hR, h.small⟩
theorem TabD.next {w w' : World} {B R g c k : Nat} {es : List El} (h : TabD w R g c k es) (hg : w.grownBy w' (some B)) (hB : B < R) : TabD w' R g c k es := ⟨h.len, h.k4, h.kl, h.lc, h.cm, h.tab.next hg hB, h.small⟩
def tabV (g c k : Nat) (es : List El) : Value := .slice (some ⟨g, k * 2, none⟩) (es.length - k) (c - k)
theorem below_srcG {w w1 w2 : World} (h : Below w.heap.size w w1) (hg : w1.grownBy w2 (some w.heap.size)) : Below w.heap.size w w2 := h.grown hg h.size (fun k hk => by cases hk; exact Nat.le_refl _)

def DCovPost (w : World) (e : Ending) (w' : World) : Prop := ∃ (g c k : Nat) (es : List El), e = .returned (tabV g c k es) ∧ TabD w' w.heap.size g c k es ∧ Below w.heap.size w w'
set_option maxHeartbeats 2000000 in
set_option maxRecDepth 100000 in
theorem cDrawCovered (A : Option Addr) (len cap : Nat) (w : World) (hlen : len ≤ 1048576) (h : CodeIn w A len) :
    Calls Try.prog 19 #[.slice A len cap] w (DCovPost w) := by
  have C0 := Lib.hid (cFrom A len cap w hlen h)
  clear h
  go_enter Try.func19, Try.ntmps19
  go_wp2_with fail
  refine C0.out.mono ?_
  rintro e w1 ⟨rfl, hS1, hb1⟩
  have hl1 := hS1.lt
  have C1 := Lib.hid (cDrawTable w.heap.size len w1 hlen hS1)
  clear hS1 C0
  go_wp2_with fail
  refine C1.out.mono ?_
  rintro e w2 ⟨g, c, k, es, h1, h2, h3, h4, h5, rfl, h6, h7, hS2, g2⟩
  have HP : Hid (DCovPost w (.returned (tabV g c k es)) w2) := Lib.hid ⟨g, c, k, es, rfl, ⟨h1, h2, h3, h4, h5, h6.low hb1.size, h7⟩, below_srcG hb1 g2⟩
  clear h1 h2 h3 h4 h5 h6 h7 hS2 g2 C1
  go_wp2_with fail
  go_ret
  exact HP.out

def DRomPost (w : World) (e : Ending) (w' : World) : Prop := ∃ (g c k : Nat) (es : List El) (A : Option Addr) (n cn : Nat) (xs : List Int), e = .returned (.tuple #[tabV g c k es, .slice A n cn]) ∧ TabD w' w.heap.size g c k es ∧ n ≤ 13 ∧ n ≤ cn ∧ cn ≤ maxLen ∧ w'.ownsRow w.heap.size 2 1 (.slice A n cn) n (intV xs) ∧ Below w.heap.size w w'
set_option maxHeartbeats 2000000 in
set_option maxRecDepth 100000 in
theorem cDrawRom (A : Option Addr) (len cap : Nat) (w : World) (hlen : len ≤ 1048576) (h : CodeIn w A len) :
    Calls Try.prog 14 #[.slice A len cap] w (DRomPost w) := by
  have C0 := Lib.hid (cFrom A len cap w hlen h)
  clear h
  go_enter Try.func14, Try.ntmps14
  go_wp2_with fail
  refine C0.out.mono ?_
  rintro e w1 ⟨rfl, hS1, hb1⟩
  have hl1 := hS1.lt
  have C1 := Lib.hid (cDrawTable w.heap.size len w1 hlen hS1)
  clear hS1 C0
  go_wp2_with fail
  refine C1.out.mono ?_
  rintro e w2 ⟨g, c, k, es, h1, h2, h3, h4, h5, rfl, h6, h7, hS2, g2⟩
  have HT2 : Hid (TabD w2 w1.heap.size g c k es) := Lib.hid ⟨h1, h2, h3, h4, h5, h6, h7⟩
  have HB2 := Lib.hid (below_srcG hb1 g2)
  have hw1 := hb1.size
  have C2 := Lib.hid (cDrawSigns w.heap.size len w2 hlen hS2)
  clear h1 h2 h3 h4 h5 h6 h7 hS2 g2 C1
  go_wp2_with fail
  refine C2.out.mono ?_
  rintro e w3 ⟨A2, n, cn, xs, hn, rfl, hnc, hcm, hO3, hS3, g3⟩
  have HP : Hid (DRomPost w (.returned (.tuple #[tabV g c k es, .slice A2 n cn])) w3) := Lib.hid ⟨g, c, k, es, A2, n, cn, xs, rfl, (HT2.out.next g3 hl1).low hw1, hn, hnc, hcm, rowLowS hO3 HB2.out.size, below_srcG HB2.out g3⟩
  clear hS3 g3 hO3 C2 hnc hcm hn
  go_wp2_with fail
  go_ret2
  exact HP.out

theorem two_setsG (w : World) (a b : Addr) (u v : Value) (g : Nat) (ha : g ≠ a.block) (hb : g ≠ b.block) : ((w.setCell a u).setCell b v).heap[g]? = w.heap[g]? := by
  rw [Below.heap_setCell _ _ _ _ hb, Below.heap_setCell _ _ _ _ ha]
theorem sets_belowG {B : Nat} {w w' : World} (h : Below B w w') {g : Nat} (hg : B ≤ g) (x y : Value) : Below B w ((w'.setCell ⟨g, 0, none⟩ x).setCell ⟨g, 1, none⟩ y) := (h.setCell hg x).setCell hg y
theorem sets_grown {w : World} {g : Nat} (x y : Value) : w.grownBy ((w.setCell ⟨g, 0, none⟩ x).setCell ⟨g, 1, none⟩ y) (some g) :=
  ⟨rfl, rfl, rfl, by simp, fun k hk hne => two_setsG w _ _ x y k (by intro e; apply hne; rw [e]) (by intro e; apply hne; rw [e])⟩
def DAddPost (w : World) (e : Ending) (w' : World) : Prop := ∃ (g c k : Nat) (es : List El) (g1 n1 c1 : Nat) (xs : List Int) (t : ByteArray), e = .returned (.tuple #[tabV g c k es, .agg #[.slice (some ⟨g1, 0, none⟩) n1 c1, .string t]]) ∧ TabD w' w.heap.size g c k es ∧ n1 ≤ 4 ∧ t.size ≤ 5 ∧ w'.ownsRow w.heap.size 2 1 (.slice (some ⟨g1, 0, none⟩) n1 c1) n1 (intV xs) ∧ Below w.heap.size w w'
set_option maxHeartbeats 2000000 in
set_option maxRecDepth 100000 in
theorem cDrawAdd (A : Option Addr) (len cap : Nat) (w : World) (hlen : len ≤ 1048576) (h : CodeIn w A len) :
    Calls Try.prog 24 #[.slice A len cap] w (DAddPost w) := by
  obtain ⟨W1, hW1⟩ : ∃ W1, W1 = w.alloc (.cells #[.slice none 0 0, .string ByteArray.empty] 35) := ⟨_, rfl⟩
  have R0 : PairW W1 w.heap.size (.slice none 0 0) (.string ByteArray.empty) := by rw [hW1]; exact PairW.new w _ _ _
  have B0 : Below w.heap.size w W1 := by rw [hW1]; exact alloc_below _ _
  have HS : Hid (W1.heap.size = w.heap.size + 1) := Lib.hid (by rw [hW1]; simp)
  have C0 := Lib.hid (cFrom A len cap W1 hlen (h.belowG B0))
  have HR0 := Lib.hid R0
  have HB0 := Lib.hid B0
  clear h R0 B0
  go_enter Try.func24, Try.ntmps24
  go_wp2_with fail
  rw [← show W1 = w.alloc (.cells #[.slice none 0 0, .string ⟨#[]⟩] 35) from hW1]
  clear hW1
  refine C0.out.mono ?_
  rintro e w2 ⟨rfl, S2, b2⟩
  have C3 := Lib.hid (cDrawTable W1.heap.size len w2 hlen S2)
  have HR2 := Lib.hid (HR0.out.below b2)
  have HB2 := Lib.hid (HB0.out.trans (b2.mono (by have := HS.out; omega)))
  have hs2 := b2.size
  have hl2 := S2.lt
  clear S2 b2 C0
  go_wp2_with fail
  refine C3.out.mono ?_
  rintro e w3 ⟨g, c, k, es, h1, h2, h3, h4, h5, rfl, h6, h7, hS3, g3⟩
  have HT3 : Hid (TabD w3 w2.heap.size g c k es) := Lib.hid ⟨h1, h2, h3, h4, h5, h6, h7⟩
  have HR3 := Lib.hid (HR2.out.grownD g3 (by intro e; have h9 := Option.some.inj e; have := HS.out; omega))
  have HB3 : Hid (Below w.heap.size w w3) := Lib.hid (HB2.out.grown g3 HB2.out.size (fun z hz => by have h9 := Option.some.inj hz; have := HS.out; omega))
  have hs3 := g3.size
  have C4 := Lib.hid (cDrawRule W1.heap.size len w3 hlen hS3)
  clear h1 h2 h3 h4 h5 h6 h7 hS3 g3 C3 HR2 HB2
  go_wp2_with fail
  refine C4.out.mono ?_
  rintro e w4 ⟨g1, k1, c1, xs, t, rfl, hk, ht, hx, own, S4, g4⟩
  have HR4 := Lib.hid (HR3.out.grownD g4 (by intro e; have h9 := Option.some.inj e; have := HS.out; omega))
  have hb4 : Below w.heap.size w w4 := HB3.out.grown g4 HB3.out.size (fun z hz => by have h9 := Option.some.inj hz; have := HS.out; omega)
  have HT4 := Lib.hid (HT3.out.next g4 hl2)
  have HO4 := Lib.hid own
  have HB4 := Lib.hid hb4
  have hg := (own.lt g1 rfl).1
  have hgw : w.heap.size < g1 := by have := HS.out; omega
  have hw2 : w.heap.size < w2.heap.size := by have := HS.out; omega
  obtain ⟨⟨_, d0, d1⟩, f0, f1⟩ := HR4.out
  obtain ⟨⟨_, r0, r1⟩, _, _⟩ := pair_set (u' := .slice (some ⟨g1, 0, none⟩) k1 c1) (v' := .string t) HR4.out
  have HP : Hid (DAddPost w (.returned (.tuple #[tabV g c k es, .agg #[.slice (some ⟨g1, 0, none⟩) k1 c1, .string t]])) ((w4.setCell ⟨w.heap.size, 0, none⟩ (.slice (some ⟨g1, 0, none⟩) k1 c1)).setCell ⟨w.heap.size, 1, none⟩ (.string t))) := Lib.hid
    ⟨g, c, k, es, g1, k1, c1, xs, t, rfl, (HT4.out.next (sets_grown _ _) hw2).low (by omega), hk, ht, ownsRow_block (rowBase HO4.out (by omega)) (two_setsG _ _ _ _ _ _ (by show g1 ≠ w.heap.size; omega) (by show g1 ≠ w.heap.size; omega)), sets_belowG HB4.out (Nat.le_refl _) _ _⟩
  clear S4 g4 own hx hb4 C4
  go_wp2_with fail
  refine bodyPost_ret (v := .tuple #[tabV g c k es, .agg #[.slice (some ⟨g1, 0, none⟩) k1 c1, .string t]]) (by simp [results, Try.results24, go_sem, r0, r1, tabV]) rfl ?_
  exact HP.out
end Go.Proofs.Ytnfdbpfegmodcaa
