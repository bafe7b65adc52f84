/-
  The contract of spec.DrawRuleText.
-/
import Derived.Test.YtnfdbpfegmodcaaDoorDrawRule
namespace Go.Proofs.YtnfdbpfegmodcaaDoor
set_option linter.unusedVariables false
open Go.RowKit

/-- A drawn rule comes back. -/
def RulePost (w : World) (e : Ending) (w' : World) : Prop := ∃ (g k c : Nat) (xs : List Int) (t : ByteArray), e = .returned (.agg #[.slice (some ⟨g, 0, none⟩) k c, .string t]) ∧ k ≤ 4 ∧ t.size ≤ 5 ∧ (∀ x ∈ xs, -1 ≤ x ∧ x ≤ 20) ∧
  w'.ownsRow w.heap.size 2 1 (.slice (some ⟨g, 0, none⟩) k c) k (intV xs) ∧ Below w.heap.size w w'

set_option maxHeartbeats 2000000 in
set_option maxRecDepth 100000 in
theorem cDrawRuleText (A : Option Addr) (len cap : Nat) (w : World) (hlen : len ≤ 1048576) (h : CodeIn w A len) :
    Calls Tryd.prog 5 #[.slice A len cap] w (RulePost w) := by
  obtain ⟨W1, hW1⟩ : ∃ W1, W1 = w.alloc (.cells #[.slice none 0 0, .string ByteArray.empty] 26) := ⟨_, rfl⟩
  have R0 : PairW W1 w.heap.size (.slice none 0 0) (.string ByteArray.empty) := by rw [hW1]; exact PairW.new w _ _ _
  have B0 : Below w.heap.size w W1 := by rw [hW1]; exact alloc_below _ _
  have HS : Hid (W1.heap.size = w.heap.size + 1) := Lib.hid (by rw [hW1]; simp)
  have C0 := Lib.hid (cFrom A len cap W1 hlen (h.below B0))
  have HR0 := Lib.hid R0
  have HB0 := Lib.hid B0
  clear h R0 B0
  go_enter Tryd.func5, Tryd.ntmps5
  go_wp2_with fail
  rw [← show W1 = w.alloc (.cells #[.slice none 0 0, .string ⟨#[]⟩] 26) from hW1]
  clear hW1
  refine C0.out.mono ?_
  rintro e w2 ⟨rfl, S2, b2⟩
  have C3 := Lib.hid (cDrawRule W1.heap.size len w2 hlen S2)
  have HR2 := Lib.hid (HR0.out.below b2)
  have HB2 := Lib.hid (HB0.out.trans (b2.mono (by have := HS.out; omega)))
  have hs2 := b2.size
  clear S2 b2 C0
  go_wp2_with fail
  refine C3.out.mono ?_
  rintro e w3 ⟨g, k, c, xs, t, rfl, hk, ht, hx, own, S3, g3⟩
  have HR3 := Lib.hid (HR2.out.grownD g3 (by intro e; have h9 := Option.some.inj e; have := HS.out; omega))
  have hb3 : Below w.heap.size w w3 := HB2.out.grown g3 (by have := HS.out; omega) (fun z hz => by have h9 := Option.some.inj hz; have := HS.out; omega)
  have HO3 := Lib.hid own
  have HX := Lib.hid hx
  have HB3 := Lib.hid hb3
  have hg := (own.lt g rfl).1
  have hgw : w.heap.size < g := by have := HS.out; omega
  have hw2 : w.heap.size ≤ w2.heap.size := by have := HS.out; omega
  obtain ⟨⟨_, d0, d1⟩, f0, f1⟩ := HR3.out
  obtain ⟨⟨_, r0, r1⟩, _, _⟩ := pair_set (u' := .slice (some ⟨g, 0, none⟩) k c) (v' := .string t) HR3.out
  clear S3 g3 own hx hb3 C3
  go_wp2_with fail
  refine bodyPost_ret (v := .agg #[.slice (some ⟨g, 0, none⟩) k c, .string t]) (by simp [results, Tryd.results5, go_sem, r0, r1]) rfl ?_
  refine ⟨g, k, c, xs, t, rfl, hk, ht, HX.out, ?_, sets_below HB3.out (Nat.le_refl _) _ _⟩
  exact ownsRow_block (rowBase HO3.out (by omega)) (two_sets _ _ _ _ _ _ (by show g ≠ w.heap.size; omega) (by show g ≠ w.heap.size; omega))
end Go.Proofs.YtnfdbpfegmodcaaDoor
