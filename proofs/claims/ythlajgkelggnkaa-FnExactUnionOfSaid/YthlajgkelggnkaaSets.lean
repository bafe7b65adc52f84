/-
  The contracts of spec.UnionOf, spec.WithoutYears, slices.Clone at spans, impl.limitedYears.
-/
import Derived.Test.YthlajgkelggnkaaWithout
import Derived.WalkSpells
namespace Go.Proofs.Ythlajgkelggnkaa
set_option linter.unusedVariables false
open Go.RowKit

/-- The code and the list that the union (or what is left) of two lists has. -/
def SetIs (both : Bool) (xs ys : List Sp) (code : Int) (zs : List Sp) : Prop :=
  ((yearsB xs && yearsB ys) = false ∧ code = 1 ∧ zs = []) ∨ ((yearsB xs && yearsB ys) = true ∧ ∃ full, Upto both xs ys full 3001 ∧ ((12 < full.length ∧ code = 3 ∧ zs = []) ∨ (full.length ≤ 12 ∧ code = 0 ∧ zs = full)))
theorem Upto.uniq {both : Bool} {xs ys zs zs' : List Sp} {y : Int} (h : Upto both xs ys zs y) (h' : Upto both xs ys zs' y) : zs = zs' :=
  sep_unique _ _ h.1 h'.1 fun z => (h.2 z).trans (h'.2 z).symm
theorem SetIs.uniq {both : Bool} {xs ys zs zs' : List Sp} {c c' : Int} (h : SetIs both xs ys c zs) (h' : SetIs both xs ys c' zs') : c = c' ∧ zs = zs' := by
  rcases h with ⟨h1, rfl, rfl⟩ | ⟨h1, f, hf, h2⟩ <;> rcases h' with ⟨h1', rfl, rfl⟩ | ⟨h1', f', hf', h2'⟩
  · exact ⟨rfl, rfl⟩
  · rw [h1] at h1'; cases h1'
  · rw [h1] at h1'; cases h1'
  · have e := hf.uniq hf'
    subst e
    rcases h2 with ⟨h2, rfl, rfl⟩ | ⟨h2, rfl, rfl⟩ <;> rcases h2' with ⟨h3, rfl, rfl⟩ | ⟨h3, rfl, rfl⟩
    · exact ⟨rfl, rfl⟩
    · omega
    · omega
    · exact ⟨rfl, rfl⟩
theorem SetIs.short {both : Bool} {xs ys zs : List Sp} {c : Int} (h : SetIs both xs ys c zs) : zs.length ≤ 12 := by
  rcases h with ⟨_, _, rfl⟩ | ⟨_, f, _, ⟨_, _, rfl⟩ | ⟨h, _, rfl⟩⟩
  · simp
  · simp
  · exact h
def SetPost (both : Bool) (xs ys : List Sp) (w : World) (e : Ending) (w' : World) : Prop :=
  ∃ (C : Option Addr) (n c : Nat) (code : Int) (zs : List Sp), n = zs.length ∧ SetIs both xs ys code zs ∧ e = .returned (.tuple #[.slice C n c, .int .i64 code]) ∧ w'.ownsRow w.heap.size 30 2 (.slice C n c) n (spanV zs) ∧ Below w.heap.size w w'
theorem ownsRow_base {w : World} {b b' : Nat} {t : TypeId} {s n : Nat} {v : Value} {xs : List Value} (h : w.ownsRow b t s v n xs) (hb : b' ≤ b) : w.ownsRow b' t s v n xs := by
  refine ⟨h.1, ?_⟩
  rcases h.2 with h2 | ⟨g, cap, cur, h1, h2, h3⟩
  · exact .inl h2
  · exact .inr ⟨g, cap, cur, h1, by omega, h3⟩


set_option maxHeartbeats 1000000 in
theorem cSets_union (A B : Option Addr) (n n' cap cap' : Nat) (xs ys : List Sp) (w : World) (hbig : n ≤ 1048576) (hbig' : n' ≤ 1048576) (h : SpanAt w w.heap.size A n xs) (h' : SpanAt w w.heap.size B n' ys) :
    Calls Try.prog 32 #[.slice A n cap, .slice B n' cap', .bool true] w (SetPost true xs ys w) := by
  have H := Lib.hid h
  have H' := Lib.hid h'
  have C1 := Lib.hid (cAre_spec A n cap xs w hbig h)
  clear h h'
  cases hx : yearsB xs
  · have HS : Hid (SetIs true xs ys 1 []) := Lib.hid (.inl ⟨by rw [hx]; rfl, rfl, rfl⟩)
    rw [hx] at C1
    clear hx
    go_enter Try.func32, Try.ntmps32
    go_wp2_with fail
    refine C1.out.mono ?_
    rintro e w1 ⟨rfl, hb1⟩
    go_wp2_with fail
    go_ret2
    exact ⟨none, 0, 0, 1, [], rfl, HS.out, rfl, World.ownsRow_nil _ _ _ _, hb1⟩
  rw [hx] at C1
  have C2 := Lib.hid (fun W (hb : Below w.heap.size w W) => cAre_spec B n' cap' ys W hbig' ((H'.out.below hb).more hb.size))
  cases hy : yearsB ys
  · have HS : Hid (SetIs true xs ys 1 []) := Lib.hid (.inl ⟨by rw [hy, Bool.and_false], rfl, rfl⟩)
    rw [hy] at C2
    clear hx hy
    go_enter Try.func32, Try.ntmps32
    go_wp2_with fail
    refine C1.out.mono ?_
    rintro e w1 ⟨rfl, hb1⟩
    go_wp2_with fail
    refine (C2.out _ hb1).mono ?_
    rintro e w2 ⟨rfl, hc2⟩
    have hb2 := hb1.trans (hc2.mono hb1.size)
    go_wp2_with fail
    go_ret2
    exact ⟨none, 0, 0, 1, [], rfl, HS.out, rfl, World.ownsRow_nil _ _ _ _, hb2⟩
  rw [hy] at C2
  have HO : Hid ((yearsB xs && yearsB ys) = true) := Lib.hid (by rw [hx, hy]; rfl)
  have C3 := Lib.hid (fun W (hb : Below w.heap.size w W) => cBuild_union A B n n' cap cap' xs ys W hbig hbig' ((H.out.below hb).more hb.size) ((H'.out.below hb).more hb.size))
  clear hx hy
  go_enter Try.func32, Try.ntmps32
  go_wp2_with fail
  refine C1.out.mono ?_
  rintro e w1 ⟨rfl, hb1⟩
  go_wp2_with fail
  refine (C2.out _ hb1).mono ?_
  rintro e w2 ⟨rfl, hc2⟩
  have hb2 := hb1.trans (hc2.mono hb1.size)
  go_wp2_with fail
  refine (C3.out _ hb2).mono ?_
  rintro e w3 ⟨zs, C, c, hzl, hup, rfl, hown, hc3⟩
  have hb3 := hb2.trans (hc3.mono hb2.size)
  obtain ⟨m, hm⟩ : ∃ m, m = zs.length := ⟨_, rfl⟩
  rw [← hm] at hown hzl ⊢
  have HM := Lib.hid hm
  have HU := Lib.hid hup
  clear hm hup
  by_cases h12 : 12 < m
  · have HS : Hid (SetIs true xs ys 3 []) := Lib.hid (.inr ⟨HO.out, zs, HU.out, .inl ⟨by rw [← HM.out]; exact h12, rfl, rfl⟩⟩)
    go_wp2_with fail
    go_ret2
    exact ⟨none, 0, 0, 3, [], rfl, HS.out, rfl, World.ownsRow_nil _ _ _ _, hb3⟩
  · have HS : Hid (SetIs true xs ys 0 zs) := Lib.hid (.inr ⟨HO.out, zs, HU.out, .inr ⟨by rw [← HM.out]; omega, rfl, rfl⟩⟩)
    go_wp2_with fail
    go_ret2
    exact ⟨C, m, c, 0, zs, HM.out, HS.out, rfl, ownsRow_base hown hb2.size, hb3⟩

set_option maxHeartbeats 1000000 in
theorem cSets_minus (A B : Option Addr) (n n' cap cap' : Nat) (xs ys : List Sp) (w : World) (hbig : n ≤ 1048576) (hbig' : n' ≤ 1048576) (h : SpanAt w w.heap.size A n xs) (h' : SpanAt w w.heap.size B n' ys) :
    Calls Try.prog 32 #[.slice A n cap, .slice B n' cap', .bool false] w (SetPost false xs ys w) := by
  have H := Lib.hid h
  have H' := Lib.hid h'
  have C1 := Lib.hid (cAre_spec A n cap xs w hbig h)
  clear h h'
  cases hx : yearsB xs
  · have HS : Hid (SetIs false xs ys 1 []) := Lib.hid (.inl ⟨by rw [hx]; rfl, rfl, rfl⟩)
    rw [hx] at C1
    clear hx
    go_enter Try.func32, Try.ntmps32
    go_wp2_with fail
    refine C1.out.mono ?_
    rintro e w1 ⟨rfl, hb1⟩
    go_wp2_with fail
    go_ret2
    exact ⟨none, 0, 0, 1, [], rfl, HS.out, rfl, World.ownsRow_nil _ _ _ _, hb1⟩
  rw [hx] at C1
  have C2 := Lib.hid (fun W (hb : Below w.heap.size w W) => cAre_spec B n' cap' ys W hbig' ((H'.out.below hb).more hb.size))
  cases hy : yearsB ys
  · have HS : Hid (SetIs false xs ys 1 []) := Lib.hid (.inl ⟨by rw [hy, Bool.and_false], rfl, rfl⟩)
    rw [hy] at C2
    clear hx hy
    go_enter Try.func32, Try.ntmps32
    go_wp2_with fail
    refine C1.out.mono ?_
    rintro e w1 ⟨rfl, hb1⟩
    go_wp2_with fail
    refine (C2.out _ hb1).mono ?_
    rintro e w2 ⟨rfl, hc2⟩
    have hb2 := hb1.trans (hc2.mono hb1.size)
    go_wp2_with fail
    go_ret2
    exact ⟨none, 0, 0, 1, [], rfl, HS.out, rfl, World.ownsRow_nil _ _ _ _, hb2⟩
  rw [hy] at C2
  have HO : Hid ((yearsB xs && yearsB ys) = true) := Lib.hid (by rw [hx, hy]; rfl)
  have C3 := Lib.hid (fun W (hb : Below w.heap.size w W) => cBuild_minus A B n n' cap cap' xs ys W hbig hbig' ((H.out.below hb).more hb.size) ((H'.out.below hb).more hb.size))
  clear hx hy
  go_enter Try.func32, Try.ntmps32
  go_wp2_with fail
  refine C1.out.mono ?_
  rintro e w1 ⟨rfl, hb1⟩
  go_wp2_with fail
  refine (C2.out _ hb1).mono ?_
  rintro e w2 ⟨rfl, hc2⟩
  have hb2 := hb1.trans (hc2.mono hb1.size)
  go_wp2_with fail
  refine (C3.out _ hb2).mono ?_
  rintro e w3 ⟨zs, C, c, hzl, hup, rfl, hown, hc3⟩
  have hb3 := hb2.trans (hc3.mono hb2.size)
  obtain ⟨m, hm⟩ : ∃ m, m = zs.length := ⟨_, rfl⟩
  rw [← hm] at hown hzl ⊢
  have HM := Lib.hid hm
  have HU := Lib.hid hup
  clear hm hup
  by_cases h12 : 12 < m
  · have HS : Hid (SetIs false xs ys 3 []) := Lib.hid (.inr ⟨HO.out, zs, HU.out, .inl ⟨by rw [← HM.out]; exact h12, rfl, rfl⟩⟩)
    go_wp2_with fail
    go_ret2
    exact ⟨none, 0, 0, 3, [], rfl, HS.out, rfl, World.ownsRow_nil _ _ _ _, hb3⟩
  · have HS : Hid (SetIs false xs ys 0 zs) := Lib.hid (.inr ⟨HO.out, zs, HU.out, .inr ⟨by rw [← HM.out]; omega, rfl, rfl⟩⟩)
    go_wp2_with fail
    go_ret2
    exact ⟨C, m, c, 0, zs, HM.out, HS.out, rfl, ownsRow_base hown hb2.size, hb3⟩

theorem cUnionOf_spec (A B : Option Addr) (n n' cap cap' : Nat) (xs ys : List Sp) (w : World) (hbig : n ≤ 1048576) (hbig' : n' ≤ 1048576) (h : SpanAt w w.heap.size A n xs) (h' : SpanAt w w.heap.size B n' ys) :
    Calls Try.prog 8 #[.slice A n cap, .slice B n' cap'] w (SetPost true xs ys w) := by
  have C1 := Lib.hid (cSets_union A B n n' cap cap' xs ys w hbig hbig' h h')
  clear h h'
  go_enter Try.func8, Try.ntmps8
  go_wp2_with fail
  refine C1.out.mono ?_
  rintro e w1 ⟨C, m, c, code, zs, hm, hs, rfl, hown, hb⟩
  have HM := Lib.hid hm
  have HS := Lib.hid hs
  clear hm hs
  go_wp2_with fail
  go_ret2
  exact ⟨C, m, c, code, zs, HM.out, HS.out, rfl, hown, hb⟩

theorem cWithoutYears_spec (A B : Option Addr) (n n' cap cap' : Nat) (xs ys : List Sp) (w : World) (hbig : n ≤ 1048576) (hbig' : n' ≤ 1048576) (h : SpanAt w w.heap.size A n xs) (h' : SpanAt w w.heap.size B n' ys) :
    Calls Try.prog 10 #[.slice A n cap, .slice B n' cap'] w (SetPost false xs ys w) := by
  have C1 := Lib.hid (cSets_minus A B n n' cap cap' xs ys w hbig hbig' h h')
  clear h h'
  go_enter Try.func10, Try.ntmps10
  go_wp2_with fail
  refine C1.out.mono ?_
  rintro e w1 ⟨C, m, c, code, zs, hm, hs, rfl, hown, hb⟩
  have HM := Lib.hid hm
  have HS := Lib.hid hs
  clear hm hs
  go_wp2_with fail
  go_ret2
  exact ⟨C, m, c, code, zs, HM.out, HS.out, rfl, hown, hb⟩

theorem span_cells {w : World} {B n : Nat} {b o : Nat} {xs : List Sp} (h : SpanAt w B (some ⟨b, o, none⟩) n xs) : ∀ (j : Nat) u, (spanV xs)[j]? = some u → w.cell? ((⟨b, o, none⟩ : Addr).add j) = some u := by
  intro j u hu
  have hj := (List.getElem?_eq_some_iff.1 hu).1
  rw [spanV_len] at hj
  obtain ⟨p, hp⟩ : ∃ p, xs[j / 2]? = some p := ⟨xs[j / 2]'(by omega), List.getElem?_eq_getElem _⟩
  obtain ⟨b', o', hA, _, h1, h2⟩ := h.2 _ p hp
  injection hA with hA
  injection hA with e1 e2 _
  subst e1; subst e2
  have hv := spanV_at xs _ p hp
  rw [add_plain2]
  by_cases he : j % 2 = 0
  · rw [show j / 2 * 2 = j by omega] at hv h1
    rw [hv.1] at hu; rw [h1]; exact hu
  · rw [show j / 2 * 2 + 1 = j by omega] at hv
    rw [show o + j / 2 * 2 + 1 = o + j by omega] at h2
    rw [hv.2] at hu; rw [h2]; exact hu
theorem spanV_one' (xs : List Sp) : ∀ u ∈ spanV xs, u.oneCell' = true := by
  intro u hu
  unfold spanV at hu
  obtain ⟨p, _, hp⟩ := List.mem_flatMap.1 hu
  simp at hp
  rcases hp with rfl | rfl <;> rfl

set_option maxHeartbeats 1000000 in
theorem cClone (b o n cap : Nat) (xs : List Sp) (w : World) (hbig : n ≤ 1048576) (h : SpanAt w w.heap.size (some ⟨b, o, none⟩) n xs) :
    Calls Try.prog 33 #[.slice (some ⟨b, o, none⟩) n cap] w fun e w' => (∃ C c, e = .returned (.slice C n c) ∧ w'.ownsRow w.heap.size 30 2 (.slice C n c) n (spanV xs)) ∧ Below w.heap.size w w' := by
  obtain ⟨i0, hi0, hz0, hz1, hz2⟩ := info_parts info_span
  have H := Lib.hid h
  have hcells := span_cells (h.below (below_alloc w (.cells #[] 30)))
  have hlen : (spanV xs).length = n * 2 := by rw [spanV_len, h.1]
  have HC := Lib.hid hcells
  have HL := Lib.hid hlen
  clear h hcells hlen
  have he := Lib.run_eql_slice_nil (P := Try.prog) w 24 30 (some ⟨b, o, none⟩) n cap 0 0 Try.underlying24
  go_enter Try.func33, Try.ntmps33
  go_wp2_with (at_builtin; refine wpList_append_own _ rfl _ _ 24 rfl w.heap.size 30 i0 _ 2 16 Try.underlying24 hi0 hz0 hz1 hz2 rfl (by decide) _ 0 [] rfl (World.ownsRow_lit (e := 30) (base := w.heap.size) (size := 2) w #[] 0 (Nat.le_refl _) (by decide) rfl) ⟨b, o, none⟩ n cap (spanV xs) rfl HL.out HC.out (spanV_one' xs) ?d3 ?d4 ?d5 ?_)
  case d3 => unfold maxLen; omega
  case d4 => omega
  case d5 => simp
  intro v' w1 hown1 hgrow1 _
  obtain ⟨C, c, rfl⟩ := span_form hown1
  have hb1 : Below w.heap.size w w1 := (below_alloc w (.cells #[] 30)).grown hgrow1 (by simp) (fun k hk => by cases hk; exact Nat.le_refl _)
  go_wp2_with fail
  go_ret
  exact ⟨⟨C, c, rfl, hown1⟩, hb1⟩

theorem cLimited (C : Option Addr) (n c : Nat) (w : World) (hbig : n ≤ 1048576) :
    Calls Try.prog 35 #[.slice C n c] w fun e w' => e = .returned (if 12 < n then .tuple #[.slice none 0 0, .int .i64 3] else .tuple #[.slice C n c, .int .i64 0]) ∧ w = w' := by
  by_cases h : 12 < n
  · rw [if_pos h]
    go_enter Try.func35, Try.ntmps35
    go_wp2
    go_ret2
    exact ⟨rfl, rfl⟩
  · rw [if_neg h]
    go_enter Try.func35, Try.ntmps35
    go_wp2
    go_ret2
    exact ⟨rfl, rfl⟩
end Go.Proofs.Ythlajgkelggnkaa
