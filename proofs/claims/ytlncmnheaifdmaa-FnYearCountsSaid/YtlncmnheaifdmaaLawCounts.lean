/-
  The law of counts of years.
-/
import Derived.Test.YtlncmnheaifdmaaDrawYears
import Derived.Test.YtlncmnheaifdmaaNeSpP
import Derived.Test.YtlncmnheaifdmaaCodeArg
import Derived.Test.YtlncmnheaifdmaaCount
import Derived.Test.YtlncmnheaifdmaaUn
import Derived.Test.YtlncmnheaifdmaaWo
namespace Go.Proofs.Ytlncmnheaifdmaa
set_option linter.unusedVariables false
open Go.RowKit

theorem CodeIn.below {w w' : World} {A : Option Addr} {len : Nat} (h : CodeIn w A len) (hb : Below w.heap.size w w') : CodeIn w' A len := fun hp => by
  obtain ⟨b, o, hA, hlt, hc⟩ := h hp
  refine ⟨b, o, hA, Nat.lt_of_lt_of_le hlt hb.size, fun j hj => ?_⟩
  obtain ⟨z, h0, h1, h2⟩ := hc j hj
  exact ⟨z, h0, h1, (hb.cell (p := ⟨b, o + j, none⟩) hlt).trans h2⟩
def YearRowPost (w : World) (e : Ending) (w' : World) : Prop := ∃ (g k c : Nat) (xs : List Sp), k ≤ 13 ∧ e = .returned (.slice (some ⟨g, 0, none⟩) k c) ∧ Row w' (some ⟨g, 0, none⟩) k c xs ∧ Below w.heap.size w w'
def YearRowPost2 (w : World) (e : Ending) (w' : World) : Prop := ∃ (g k c : Nat) (xs : List Sp) (z : Int), k ≤ 13 ∧ e = .returned (.tuple #[.slice (some ⟨g, 0, none⟩) k c, .int .i64 z]) ∧ Row w' (some ⟨g, 0, none⟩) k c xs ∧ Below w.heap.size w w'

set_option maxHeartbeats 1000000 in
theorem cDrawCount (A : Option Addr) (len cap : Nat) (w : World) (hlen : len ≤ 1048576) (h : CodeIn w A len) :
    Calls Try.prog 39 #[.slice A len cap] w (YearRowPost w) := by
  have C0 := Lib.hid (cFrom A len cap _ hlen h)
  clear h
  go_enter Try.func39, Try.ntmps39
  go_wp2_with fail
  refine C0.out.mono ?_
  rintro e w1 ⟨rfl, hS1, hb1⟩
  have C1 := Lib.hid (cDrawYears w.heap.size len w1 hlen hS1.lt hS1)
  clear hS1 C0
  go_wp2_with fail
  refine C1.out.mono ?_
  rintro e w2 ⟨v, k, xs, hk, rfl, ⟨g, c, hv, _, ho⟩, _, g2⟩
  subst hv
  have hb2 : Below w.heap.size w w2 := hb1.grown g2 hb1.size (fun z hz => by cases hz; exact Nat.le_refl _)
  have HP := Lib.hid (show YearRowPost w (.returned (.slice (some ⟨g, 0, none⟩) k c)) w2 from ⟨g, k, c, xs, hk, rfl, Row.of ho, hb2⟩)
  clear ho g2 hb2 C1
  go_wp2_with fail
  go_ret
  exact HP.out

set_option maxHeartbeats 1000000 in
theorem cDrawHas (A : Option Addr) (len cap : Nat) (w : World) (hlen : len ≤ 1048576) (h : CodeIn w A len) :
    Calls Try.prog 41 #[.slice A len cap] w (YearRowPost2 w) := by
  have C0 := Lib.hid (cFrom A len cap _ hlen h)
  clear h
  go_enter Try.func41, Try.ntmps41
  go_wp2_with fail
  refine C0.out.mono ?_
  rintro e w1 ⟨rfl, hS1, hb1⟩
  have hl1 := hS1.lt
  have C1 := Lib.hid (cDrawYears w.heap.size len w1 hlen hl1 hS1)
  clear hS1 C0
  go_wp2_with fail
  refine C1.out.mono ?_
  rintro e w2 ⟨v, k, xs, hk, rfl, ho0, hS2, g2⟩
  have hb2 : Below w.heap.size w w2 := hb1.grown g2 hb1.size (fun z hz => by cases hz; exact Nat.le_refl _)
  have C2 := Lib.hid (cNext w.heap.size len 600 w2 hlen (by omega) (by omega) hS2)
  have HO := Lib.hid ho0
  clear hS2 g2 C1 ho0
  go_wp2_with fail
  refine C2.out.mono ?_
  rintro e w3 ⟨r, hr0, hr1, rfl, _, g3⟩
  have hr2 : r < 600 := by omega
  obtain ⟨g, c, hv, _, ho⟩ := HO.out.grown hl1 g3
  subst hv
  have hb3 : Below w.heap.size w w3 := hb2.grown g3 hb2.size (fun z hz => by cases hz; exact Nat.le_refl _)
  have HP := Lib.hid (show YearRowPost2 w (.returned (.tuple #[.slice (some ⟨g, 0, none⟩) k c, .int .i64 (950 + r)])) w3 from ⟨g, k, c, xs, 950 + r, hk, rfl, Row.of ho, hb3⟩)
  clear ho g3 hb3 C2 hr1
  go_wp2_with fail
  go_ret2
  exact HP.out

set_option maxHeartbeats 1000000 in
theorem cLikeSp (A A' : Option Addr) (n cap cap' : Nat) (xs : List Sp) (w : World) (hbig : n ≤ 1099511627776) (h1 : SpanAt w w.heap.size A n xs) (h2 : SpanAt w w.heap.size A' n xs) :
    Calls Try.prog 32 #[.slice A n cap, .slice A' n cap'] w fun e w' => e = .returned (.bool true) ∧ Below w.heap.size w w' := by
  have H1 := Lib.hid h1
  have H2 := Lib.hid h2
  have hgd := guard_span
  clear h1 h2
  go_enter Try.func32, Try.ntmps32
  go_wp2
  go_loopw [5] (fun i wr => ∃ j m : Nat, j ≤ n ∧ i = .int .i64 j ∧ wr = w.drewN m) (fun i _ => n - (intOf i).toNat)
  case atStart => exact ⟨0, 0, Nat.zero_le _, rfl, rfl⟩
  case round =>
    obtain ⟨j, m, hj, rfl, rfl⟩ := hrel
    by_cases hlt : j < n
    · obtain ⟨p, hp⟩ : ∃ p, xs[j]? = some p := ⟨xs[j]'(by have := H1.out.1; omega), List.getElem?_eq_getElem _⟩
      obtain ⟨b, o, rfl, hbl, c0, c1⟩ := H1.out.2 j p hp
      obtain ⟨b', o', rfl, hbl', d0, d1⟩ := H2.out.2 j p hp
      clear hp
      obtain ⟨x, y⟩ := p
      have hne := run_neSame x y
      have e1 : (0 : Int) ≤ (j : Int) := Int.natCast_nonneg _
      have e2 : (j : Int) < (n : Int) := by omega
      go_wp2
      go_quiet (fail)
      go_wp2
      go_roundw
      case rel => exact ⟨j + 1, _, by omega, by go_num, rfl⟩
      case measure => simp [intOf]; omega
    · go_wp2
      go_ret
      exact ⟨rfl, ⟨rfl, rfl, rfl, Nat.le_refl _, fun _ _ => rfl⟩⟩

theorem cnt_len : ∀ {xs : List Sp}, (∀ p ∈ xs, spB p.1 p.2 = true) → (xs.length : Int) ≤ cntS xs
  | [], _ => Int.le_refl _
  | p :: xs, h => by
    have h1 := spB_bd (h p List.mem_cons_self)
    have h2 := cnt_len (xs := xs) (fun q hq => h q (List.mem_cons_of_mem _ hq))
    rw [cntS, List.length_cons]; omega
theorem set_nothing {xs : List Sp} (h : yearsB xs = true) : SetIs false xs xs 0 [] := by
  refine .inr ⟨by rw [h]; rfl, [], ⟨trivial, fun z => ⟨fun hm => absurd hm (memS_nil z), fun ⟨ha, _⟩ => ?_⟩⟩, .inr ⟨Nat.zero_le _, rfl, rfl⟩⟩
  unfold askB at ha
  rw [if_neg (by simp)] at ha
  cases hb : hasB xs z <;> rw [hb] at ha <;> simp at ha
theorem set_same {xs : List Sp} (h : yearsB xs = true) : SetIs true xs xs 0 xs := by
  have hs := years_sep h
  refine .inr ⟨by rw [h]; rfl, xs, ⟨hs, fun z => ?_⟩, .inr ⟨(yearsB_yes h).1, rfl, rfl⟩⟩
  unfold askB
  rw [if_pos rfl, Bool.or_self, inB_mem]
  refine ⟨fun hm => ⟨hm, ?_⟩, fun h => h.1⟩
  obtain ⟨p, hp, h1, h2⟩ := hm
  have h3 := ((sep_iff xs).1 hs).1 p hp
  omega

set_option maxHeartbeats 4000000 in
set_option maxRecDepth 100000 in
theorem wYearCounts (A : Option Addr) (len cap : Nat) (w : World) (hl : len ≤ maxLen) (h : CodeIn w A len) :
    Calls Try.prog 5 #[.slice A len cap] w fun e w' => e = .returned (.bool true) ∧ Below w.heap.size w w' := by
  have CB := Lib.hid (cBig A len cap w hl)
  by_cases h1 : 4096 < len
  · rw [decide_eq_true h1] at CB
    clear h h1 hl
    go_enter Try.func5, Try.ntmps5
    go_wp2_with fail
    refine CB.out.mono ?_
    rintro e w' ⟨rfl, rfl⟩
    go_wp2_with fail
    go_ret
    exact ⟨rfl, Below.refl _ _⟩
  rw [decide_eq_false h1] at CB
  have CD := Lib.hid (cDrawCount A len cap w (by omega) h)
  have CH := Lib.hid (fun W (hW : Below w.heap.size w W) => cDrawHas A len cap W (by omega) (h.below hW))
  clear h h1 hl
  go_enter Try.func5, Try.ntmps5
  go_wp2_with fail
  refine CB.out.mono ?_
  rintro e w' ⟨rfl, rfl⟩
  go_wp2_with fail
  refine CD.out.mono ?_
  rintro e w1 ⟨g, k, c, xs, hk, rfl, r1, b1⟩
  have hxl := r1.len
  have R1 := Lib.hid r1
  have HXL := Lib.hid hxl
  clear r1 hxl
  have fin : ∀ (nv cv : Int), cntV xs = .tuple #[.int .i64 nv, .int .i64 cv] → True := fun _ _ _ => trivial
  clear fin
  obtain ⟨nv, cv, hcv, hgood⟩ : ∃ nv cv : Int, cntV xs = .tuple #[.int .i64 nv, .int .i64 cv] ∧ ((cv = 0 ∧ yearsB xs = true ∧ nv = cntS xs) ∨ cv = 1) := by
    cases hy : yearsB xs
    · exact ⟨0, 1, cntV_bad hy, .inr rfl⟩
    · exact ⟨_, 0, cntV_ok hy, .inl ⟨rfl, rfl, rfl⟩⟩
  have HG := Lib.hid hgood
  have I1 := Lib.hid (fun W (hr : Row W (some ⟨g, 0, none⟩) k c xs) => cCount_impl (some ⟨g, 0, none⟩) k c xs W (by omega) hr.span)
  have S1 := Lib.hid (fun W (hr : Row W (some ⟨g, 0, none⟩) k c xs) => cCount_spec (some ⟨g, 0, none⟩) k c xs W (by omega) hr.span)
  rw [hcv] at I1 S1
  have hvn : (nv != nv) = false := by simp
  have hcn : (cv != cv) = false := by simp
  clear hcv hgood
  go_wp2_with fail
  refine (I1.out _ R1.out).mono ?_
  rintro e w2 ⟨rfl, g2⟩
  have b2 := b1.trans (g2.mono b1.size)
  have R2 := Lib.hid (R1.out.below g2)
  go_wp2_with fail
  refine (S1.out _ R2.out).mono ?_
  rintro e w3 ⟨rfl, g3⟩
  have b3 := b2.trans (g3.mono b2.size)
  have R3 := Lib.hid (R2.out.below g3)
  go_wp2_with fail
  refine (CH.out _ b3).mono ?_
  rintro e w4 ⟨g', k', c', ys, z, hk', rfl, r4, g4⟩
  have b4 := b3.trans (g4.mono b3.size)
  have R4 := Lib.hid (R3.out.below g4)
  have Q4 := Lib.hid r4
  obtain ⟨hb, hcode, hhv⟩ := hasV_form ys z
  have J1 := Lib.hid (fun W (hr : Row W (some ⟨g', 0, none⟩) k' c' ys) => cHasYear_impl (some ⟨g', 0, none⟩) k' c' ys z W (by omega) hr.span)
  have T1 := Lib.hid (fun W (hr : Row W (some ⟨g', 0, none⟩) k' c' ys) => cHasYear_spec (some ⟨g', 0, none⟩) k' c' ys z W (by omega) hr.span)
  rw [hhv] at J1 T1
  have hbn : (hb != hb) = false := by simp
  have hhn : (hcode != hcode) = false := by simp
  clear hhv r4
  go_wp2_with fail
  refine (J1.out _ Q4.out).mono ?_
  rintro e w5 ⟨rfl, g5⟩
  have b5 := b4.trans (g5.mono b4.size)
  have R5 := Lib.hid (R4.out.below g5)
  have Q5 := Lib.hid (Q4.out.below g5)
  go_wp2_with fail
  refine (T1.out _ Q5.out).mono ?_
  rintro e w6 ⟨rfl, g6⟩
  have b6 := b5.trans (g6.mono b5.size)
  have R6 := Lib.hid (R5.out.below g6)
  by_cases hc0 : cv = 0
  · have hy : yearsB xs = true ∧ nv = cntS xs := by
      rcases HG.out with ⟨_, h1, h2⟩ | h1
      · exact ⟨h1, h2⟩
      · omega
    have hge := cnt_len (years_mem hy.1)
    have hge2 : (k : Int) ≤ nv := by rw [hy.2, ← HXL.out]; exact hge
    have zge : decide ((k : Int) ≤ nv) = true := decide_eq_true hge2
    have HY := Lib.hid hy.1
    subst hc0
    clear hy hge
    go_wp2_with fail
    refine (cWithoutYears_impl g 0 g 0 k k c c xs xs w6 (by omega) (by omega) R6.out.span R6.out.span).mono ?_
    rintro e w7 ⟨C0, m0, c0, code, zs, hm0, hs0, rfl, own7, g7⟩
    obtain ⟨rfl, rfl⟩ := hs0.uniq (set_nothing HY.out)
    simp only [List.length_nil] at hm0
    subst hm0
    have b7 := b6.trans (g7.mono b6.size)
    have R7 := Lib.hid (R6.out.below g7)
    clear own7 hs0
    go_wp2_with fail
    refine (cUnionOf_impl g 0 g 0 k k c c xs xs w7 (by omega) (by omega) R7.out.span R7.out.span).mono ?_
    rintro e w8 ⟨C1, m1, c1, code, zs, hm1, hs1, rfl, own8, g8⟩
    obtain ⟨rfl, rfl⟩ := hs1.uniq (set_same HY.out)
    have hmk : m1 = k := hm1.trans HXL.out
    subst hmk
    have b8 := b7.trans (g8.mono b7.size)
    have R8 := Lib.hid (R7.out.below g8)
    have Q8 := Lib.hid (Row.of own8)
    clear own8 hs1 hm1
    go_wp2_with fail
    refine (cLikeSp C1 (some ⟨g, 0, none⟩) m1 c1 c zs w8 (by omega) Q8.out.span R8.out.span).mono ?_
    rintro e w9 ⟨rfl, g9⟩
    have b9 := b8.trans (g9.mono b8.size)
    go_wp2_with fail
    go_ret
    exact ⟨rfl, b9⟩
  · have z1 : (cv != 0) = true := by simpa using hc0
    clear hc0
    go_wp2_with fail
    go_ret
    exact ⟨rfl, b6⟩
end Go.Proofs.Ytlncmnheaifdmaa
