/-
  The contracts of slices.Concat at two slices of spans and of impl.UnionOf.
-/
import Derived.Test.YthlajgkelggnkaaJoinT
import Derived.Test.YthlajgkelggnkaaWo
namespace Go.Proofs.Ythlajgkelggnkaa
set_option linter.unusedVariables false
open Go.RowKit

theorem cGrow (k : Nat) (w : World) (hk : k ≤ 1099511627776) :
    Calls Try.prog 51 #[.slice none 0 0, .int .i64 k] w fun e w' => (∃ C c, e = .returned (.slice C 0 c) ∧ w'.ownsRow w.heap.size 30 2 (.slice C 0 c) 0 []) ∧ Below w.heap.size w w' := by
  obtain ⟨i0, hi0, hz0, hz1, hz2⟩ := info_parts info_span
  rcases Nat.eq_zero_or_pos k with rfl | hp
  · have h := Any8.slices_Grow_room Try.growSp none 0 0 0 w (Nat.le_refl _) (by omega) (by omega) (by omega)
    change Calls Try.prog 51 _ _ _ at h
    refine h.mono ?_
    rintro e w' ⟨rfl, rfl⟩
    exact ⟨⟨none, 0, rfl, World.ownsRow_nil _ _ _ _⟩, Below.refl _ _⟩
  · have h := Any8.slices_Grow_grow Try.growSp i0 (.agg #[.int .i64 0, .int .i64 0]) hi0 hz0 (by omega) none 0 0 k [] w (Nat.le_refl _) (by omega) (by rw [hz2]; omega) (by omega) (by simp) (fun _ => rfl) (fun a ha => by cases ha)
    change Calls Try.prog 51 _ _ _ at h
    refine h.mono ?_
    rintro e w' ⟨rfl, rfl⟩
    have h1 := grownCap_ge w (0 + k) 0 30
    have h2 := grownCap_le_maxLen w (0 + k) 0 30 (by unfold maxLen; omega)
    refine ⟨⟨_, _, rfl, ?_⟩, (Below.refl _ _).drew.alloc (Nat.le_refl _) _⟩
    refine World.ownsRow_made w.drew _ _ (Nat.le_refl _) h2 ?_
    change ((#[] : Array Value) ++ Builtin.zeroCells (Value.agg #[.int .i64 0, .int .i64 0]).cells (0 + k - 0) ++ Builtin.zeroCells (Value.agg #[.int .i64 0, .int .i64 0]).cells (grownCap w (0 + k) 0 30 - (0 + k))).size = grownCap w (0 + k) 0 30 * 2
    rw [Array.size_append, Array.size_append, size_zeroCells, size_zeroCells]
    have h3 : (Value.agg #[.int .i64 0, .int .i64 0]).cells.size = 2 := rfl
    rw [h3]
    generalize grownCap w (0 + k) 0 30 = G at h1 h2 ⊢
    simp
    omega

set_option maxHeartbeats 2000000 in
set_option maxRecDepth 100000 in
theorem cConcat (G b o b' o' n n' cap cap' : Nat) (xs ys : List Sp) (w : World) (hbig : n ≤ 1048576) (hbig' : n' ≤ 1048576) (hG : G < w.heap.size) (g0 : w.cell? ⟨G, 0, none⟩ = some (.slice (some ⟨b, o, none⟩) n cap)) (g1 : w.cell? ⟨G, 1, none⟩ = some (.slice (some ⟨b', o', none⟩) n' cap')) (h : SpanAt w w.heap.size (some ⟨b, o, none⟩) n xs) (h' : SpanAt w w.heap.size (some ⟨b', o', none⟩) n' ys) :
    Calls Try.prog 31 #[.slice (some ⟨G, 0, none⟩) 2 2] w fun e w' => (∃ C c, e = .returned (.slice C (n + n') c) ∧ w'.ownsRow w.heap.size 30 2 (.slice C (n + n') c) (n + n') (spanV (xs ++ ys))) ∧ Below w.heap.size w w' := by
  obtain ⟨i0, hi0, hz0, hz1, hz2⟩ := info_parts info_span
  have H := Lib.hid h
  have H' := Lib.hid h'
  have hl : (spanV xs).length = n * 2 := by rw [spanV_len, h.1]
  have hl' : (spanV ys).length = n' * 2 := by rw [spanV_len, h'.1]
  have HL := Lib.hid hl
  have HL' := Lib.hid hl'
  have HG0 := Lib.hid g0
  have HG1 := Lib.hid g1
  have u1 : (0 : Int) ≤ (n : Int) := Int.natCast_nonneg _
  have u2 : (0 : Int) ≤ (n' : Int) := Int.natCast_nonneg _
  clear h h' hl hl'
  go_enter Try.func31, Try.ntmps31
  go_wp2_with fail
  refine wp_loop_rounds 3 ?_
  rw [rounds_succ]
  go_wp2_with fail
  rw [rounds_succ]
  go_wp2_with fail
  rw [rounds_succ]
  go_wp2_with fail
  have hg := cGrow (n + n') w (by omega)
  rw [show ((n + n' : Nat) : Int) = (n : Int) + (n' : Int) by omega] at hg
  refine hg.mono ?_
  rintro e w1 ⟨⟨C, c, rfl, hown⟩, hb1⟩
  have k0 := (hb1.cell (p := ⟨G, 0, none⟩) hG).trans HG0.out
  have k1 := (hb1.cell (p := ⟨G, 1, none⟩) hG).trans HG1.out
  have HS1 := Lib.hid (span_cells (H.out.below hb1))
  clear hg g0 g1
  go_wp2_with fail
  refine wp_loop_rounds 3 ?_
  rw [rounds_succ]
  go_wp2_with (at_builtin; refine wpList_append_own _ rfl _ _ 24 rfl w.heap.size 30 i0 _ 2 16 Try.underlying24 hi0 hz0 hz1 hz2 rfl (by decide) _ _ _ rfl hown ⟨b, o, none⟩ n cap (spanV xs) rfl HL.out HS1.out (spanV_one' xs) ?a3 ?a4 hb1.size ?_)
  case a3 => unfold maxLen; omega
  case a4 => omega
  intro v2 w2 hown2 hgrow2 _
  obtain ⟨C2, c2, rfl⟩ := span_form hown2
  have hb2 := hb1.grown hgrow2 hb1.size (fun k hk => (hown.lt k hk).1)
  have m0 := (hb2.cell (p := ⟨G, 0, none⟩) hG).trans HG0.out
  have m1 := (hb2.cell (p := ⟨G, 1, none⟩) hG).trans HG1.out
  have HS2 := Lib.hid (span_cells (H'.out.below hb2))
  clear k0 k1 hown
  go_wp2_with fail
  rw [rounds_succ]
  go_wp2_with (at_builtin; refine wpList_append_own _ rfl _ _ 24 rfl w.heap.size 30 i0 _ 2 16 Try.underlying24 hi0 hz0 hz1 hz2 rfl (by decide) _ _ _ rfl hown2 ⟨b', o', none⟩ n' cap' (spanV ys) rfl HL'.out HS2.out (spanV_one' ys) ?b3 ?b4 hb2.size ?_)
  case b3 => unfold maxLen; omega
  case b4 => omega
  intro v3 w3 hown3 hgrow3 _
  rw [← spanV_app] at hown3
  obtain ⟨C3, c3, rfl⟩ := span_form hown3
  have hb3 := hb2.grown hgrow3 hb2.size (fun k hk => (hown2.lt k hk).1)
  clear m0 m1 hown2
  go_wp2_with fail
  rw [rounds_succ]
  go_wp2_with fail
  go_ret
  exact ⟨⟨C3, c3, rfl, hown3⟩, hb3⟩

theorem cSort_any (C : Option Addr) (n c base : Nat) (xs : List Sp) (w : World) (hbig : n ≤ 1048576) (h : w.ownsRow base 30 2 (.slice C n c) n (spanV xs)) :
    Calls Try.prog 47 #[.slice C n c, .func (.func 48) #[] #[]] w fun e w' =>
      e = .returned (.tuple #[]) ∧ ∃ ys : List Sp, ys.Perm xs ∧ Rising ys ∧ Row w' C n c ys ∧ w.grownBy w' (Value.slice C n c).ownBlock := by
  have hr := Row.of h
  rcases Nat.eq_zero_or_pos n with rfl | hp
  · have hcon := AnyF.slices_SortFunc_none Try.sortSp C c (.func (.func 48) #[] #[]) w
    change Calls Try.prog 47 _ _ _ at hcon
    refine hcon.mono ?_
    rintro e w' ⟨rfl, rfl⟩
    have hx : xs = [] := List.eq_nil_of_length_eq_zero hr.len
    subst hx
    exact ⟨rfl, [], List.Perm.refl _, fun i j p q _ hi => by simp at hi, hr, World.grownBy.refl _ _⟩
  · obtain ⟨g, cc, hv, _, _⟩ := h.form hp
    obtain ⟨rfl, rfl⟩ : C = some ⟨g, 0, none⟩ ∧ c = cc := by injection hv with h1 h2 h3; exact ⟨h1, h3⟩
    exact (cSort g n c xs w hbig hr).mono fun e w' ⟨he, ys, h1, h2, h3, h4⟩ => ⟨he, ys, h1, h2, h3, h4⟩

theorem perm_mem {xs ys : List Sp} (h : ys.Perm xs) (z : Int) : memS z ys ↔ memS z xs := by
  unfold memS
  exact ⟨fun ⟨p, hp, h1⟩ => ⟨p, h.mem_iff.1 hp, h1⟩, fun ⟨p, hp, h1⟩ => ⟨p, h.mem_iff.2 hp, h1⟩⟩
theorem union_upto {xs ys us zs : List Sp} (hx : yearsB xs = true) (hy : yearsB ys = true) (hp : us.Perm (xs ++ ys)) (h : Joined us us.length zs) : Upto true xs ys zs 3001 := by
  refine ⟨h.1, fun z => ?_⟩
  rw [h.2.1 z, List.take_length, perm_mem hp, memS_app]
  have hsx := (sep_iff xs).1 (years_sep hx)
  have hsy := (sep_iff ys).1 (years_sep hy)
  have key : ∀ {l : List Sp}, (∀ p ∈ l, -3000 ≤ p.1 ∧ p.1 ≤ p.2 ∧ p.2 ≤ 3000) → memS z l → -3000 ≤ z ∧ z < 3001 := by
    rintro l hl ⟨p, hp, h1, h2⟩
    have := hl p hp
    omega
  have e : askB true xs ys z = true ↔ memS z xs ∨ memS z ys := by
    unfold askB
    simp only [if_true, Bool.or_eq_true, inB_mem]
  rw [e]
  constructor
  · rintro (h1 | h1)
    · exact ⟨.inl h1, key hsx.1 h1⟩
    · exact ⟨.inr h1, key hsy.1 h1⟩
  · rintro ⟨h1, _⟩; exact h1
theorem union_valid {xs ys us : List Sp} (hx : yearsB xs = true) (hy : yearsB ys = true) (hp : us.Perm (xs ++ ys)) : Valid us := by
  intro p hm
  rcases List.mem_append.1 (hp.mem_iff.1 hm) with h | h
  · exact years_mem hx p h
  · exact years_mem hy p h

theorem cYearsU (C : Option Addr) (m c base : Nat) (xs ys : List Sp) (w : World) (hm : m ≤ 24) (h : w.ownsRow base 30 2 (.slice C m c) m (spanV (xs ++ ys))) (hx : yearsB xs = true) (hy : yearsB ys = true) :
    Calls Try.prog 30 #[.slice C m c] w fun e w' => ∃ (D : Option Addr) (l d : Nat) (code : Int) (zs : List Sp), l = zs.length ∧ SetIs true xs ys code zs ∧ e = .returned (.tuple #[.slice D l d, .int .i64 code]) ∧ w'.ownsRow w.heap.size 30 2 (.slice D l d) l (spanV zs) ∧ ∀ (a : World) B, Below B a w → B ≤ base → B ≤ w.heap.size → Below B a w' := by
  have CS := Lib.hid (cSort_any C m c base (xs ++ ys) w (by omega) h)
  have HLT := Lib.hid h.lt
  have HX := Lib.hid hx
  have HY := Lib.hid hy
  have HO : Hid ((yearsB xs && yearsB ys) = true) := Lib.hid (by rw [hx, hy]; rfl)
  clear h hx hy
  go_enter Try.func30, Try.ntmps30
  go_wp2_with fail
  refine CS.out.mono ?_
  rintro e w4 ⟨rfl, us, hperm, hris, hrow, hg4⟩
  have HG4 := Lib.hid hg4
  have HPM := Lib.hid hperm
  have HRS := Lib.hid hris
  have HRW := Lib.hid hrow
  have HVL := Lib.hid (union_valid HX.out HY.out hperm)
  clear hperm hris hrow hg4
  go_wp2_with fail
  refine (cJoinT C m c us w4 (by omega) HRW.out.span HVL.out HRS.out).mono ?_
  rintro e w5 ⟨zs, D, l, d, hl, hj, rfl, hown5, hc5⟩
  have HUP := Lib.hid (union_upto HX.out HY.out HPM.out hj)
  have hl24 : l ≤ 24 := by have h1 := hj.2.2.2; have h2 := HRW.out.len; omega
  have HLL := Lib.hid hl
  have HO5 := Lib.hid (ownsRow_base hown5 HG4.out.size)
  have HC5 := Lib.hid hc5
  have HBT : Hid (∀ (a : World) B, Below B a w → B ≤ base → B ≤ w.heap.size → Below B a w5) := Lib.hid (fun a B ha hB hs => (ha.grown HG4.out hs (fun k hk => Nat.le_trans hB (HLT.out k hk).1)).trans (HC5.out.mono (Nat.le_trans hs HG4.out.size)))
  clear hown5 hl hj hc5
  go_wp2_with fail
  refine (cLimited D l d w5 (by omega)).mono ?_
  rintro e w9 ⟨rfl, rfl⟩
  by_cases h12 : 12 < l
  · rw [if_pos h12]
    have HS : Hid (SetIs true xs ys 3 []) := Lib.hid (.inr ⟨HO.out, zs, HUP.out, .inl ⟨by rw [← HLL.out]; exact h12, rfl, rfl⟩⟩)
    clear h12
    go_wp2_with fail
    go_ret2
    exact ⟨none, 0, 0, 3, [], rfl, HS.out, rfl, World.ownsRow_nil _ _ _ _, HBT.out⟩
  · rw [if_neg h12]
    have HS : Hid (SetIs true xs ys 0 zs) := Lib.hid (.inr ⟨HO.out, zs, HUP.out, .inr ⟨by rw [← HLL.out]; omega, rfl, rfl⟩⟩)
    clear h12
    go_wp2_with fail
    go_ret2
    exact ⟨D, l, d, 0, zs, HLL.out, HS.out, rfl, HO5.out, HBT.out⟩

set_option maxHeartbeats 2000000 in
set_option maxRecDepth 100000 in
theorem cUnionOf_impl (b o b' o' n n' cap cap' : Nat) (xs ys : List Sp) (w : World) (hbig : n ≤ 1048576) (hbig' : n' ≤ 1048576) (h : SpanAt w w.heap.size (some ⟨b, o, none⟩) n xs) (h' : SpanAt w w.heap.size (some ⟨b', o', none⟩) n' ys) :
    Calls Try.prog 7 #[.slice (some ⟨b, o, none⟩) n cap, .slice (some ⟨b', o', none⟩) n' cap'] w (SetPost true xs ys w) := by
  have H := Lib.hid h
  have H' := Lib.hid h'
  have C1 := Lib.hid (cAre_impl _ n cap xs w hbig h)
  clear h h'
  cases hx : yearsB xs
  · have HS : Hid (SetIs true xs ys 1 []) := Lib.hid (.inl ⟨by rw [hx]; rfl, rfl, rfl⟩)
    rw [hx] at C1
    clear hx
    go_enter Try.func7, Try.ntmps7
    go_wp2_with fail
    refine C1.out.mono ?_
    rintro e w1 ⟨rfl, hb1⟩
    go_wp2_with fail
    go_ret2
    exact ⟨none, 0, 0, 1, [], rfl, HS.out, rfl, World.ownsRow_nil _ _ _ _, hb1⟩
  rw [hx] at C1
  have C2 := Lib.hid (fun W (hb : Below w.heap.size w W) => cAre_impl _ n' cap' ys W hbig' (H'.out.mono_ hb))
  cases hy : yearsB ys
  · have HS : Hid (SetIs true xs ys 1 []) := Lib.hid (.inl ⟨by rw [hy, Bool.and_false], rfl, rfl⟩)
    rw [hy] at C2
    clear hx hy
    go_enter Try.func7, Try.ntmps7
    go_wp2_with fail
    refine C1.out.mono ?_
    rintro e w1 ⟨rfl, hb1⟩
    go_wp2_with fail
    refine (C2.out _ hb1).mono ?_
    rintro e w2 ⟨rfl, hc2⟩
    have hb2 := hb1.trans (hc2.mono hb1.size)
    go_wp2_with fail
    go_ret2
    exact ⟨none, 0, 0, 1, [], rfl, HS.out, rfl, World.ownsRow_nil _ _ _ _, hb2⟩
  rw [hy] at C2
  have HO : Hid ((yearsB xs && yearsB ys) = true) := Lib.hid (by rw [hx, hy]; rfl)
  have HX := Lib.hid hx
  have HY := Lib.hid hy
  have hn12 : n ≤ 12 := by have := (yearsB_yes hx).1; have := H.out.1; omega
  have hn12' : n' ≤ 12 := by have := (yearsB_yes hy).1; have := H'.out.1; omega
  clear hx hy
  go_enter Try.func7, Try.ntmps7
  go_wp2_with fail
  refine C1.out.mono ?_
  rintro e w1 ⟨rfl, hb1⟩
  go_wp2_with fail
  refine (C2.out _ hb1).mono ?_
  rintro e w2 ⟨rfl, hc2⟩
  have hb2 := hb1.trans (hc2.mono hb1.size)
  have hb2a := hb2.alloc hb2.size (.cells #[.slice (some ⟨b, o, none⟩) n cap, .slice (some ⟨b', o', none⟩) n' cap'] 24)
  go_wp2_with fail
  refine (cConcat w2.heap.size b o b' o' n n' cap cap' xs ys _ hbig hbig' (by simp) (by rw [World.cell?_alloc_at _ _ _ _ rfl]; rfl) (by rw [World.cell?_alloc_at _ _ _ _ rfl]; rfl) (H.out.mono_ hb2a) (H'.out.mono_ hb2a)).mono ?_
  rintro e w3 ⟨⟨C, c, rfl, hown⟩, hc3⟩
  have hb3 := hb2a.trans (hc3.mono hb2a.size)
  have hown3 := ownsRow_base hown hb2a.size
  clear hown
  obtain ⟨m, hm⟩ : ∃ m, m = n + n' := ⟨_, rfl⟩
  rw [← hm] at hown3 ⊢
  have hm24 : m ≤ 24 := by omega
  clear hm
  have CY := Lib.hid (cYearsU C m c w.heap.size xs ys w3 hm24 hown3 HX.out HY.out)
  have HB3 := Lib.hid hb3
  clear hown3 hb3
  go_wp2_with fail
  refine CY.out.mono ?_
  rintro e w4 ⟨D, l, d, code, zs, hl, hset, rfl, hown4, hbel⟩
  have hb4 := hbel w w.heap.size HB3.out (Nat.le_refl _) HB3.out.size
  have HO4 := Lib.hid (ownsRow_base hown4 HB3.out.size)
  have HLL := Lib.hid hl
  have HS := Lib.hid hset
  clear hown4 hbel hl hset
  go_wp2_with fail
  go_ret2
  exact ⟨D, l, d, code, zs, HLL.out, HS.out, rfl, HO4.out, hb4⟩
end Go.Proofs.Ythlajgkelggnkaa
