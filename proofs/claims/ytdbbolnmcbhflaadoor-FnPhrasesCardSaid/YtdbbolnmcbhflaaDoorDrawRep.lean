/-
  The contract of spec.DrawReplaceWord.
-/
import Derived.Test.YtdbbolnmcbhflaaDoorDrawPh
import Derived.Test.YtdbbolnmcbhflaaDoorWordsOf
import Derived.Deep.RegionWith
namespace Go.Proofs.YtdbbolnmcbhflaaDoor
set_option linter.unusedVariables false
open Go.RowKit

def TriPost (w : World) (e : Ending) (w' : World) : Prop := ∃ a b c : ByteArray, a.size ≤ 2000 ∧ b.size ≤ 2000 ∧ c.size ≤ 2000 ∧ e = .returned (.tuple #[.string a, .string b, .string c]) ∧ Below w.heap.size w w'
theorem bgrow {w w' : World} (h : Below w.heap.size w w') : w.grownBy w' none := ⟨h.os, h.tape, h.output, h.size, fun k hk _ => h.block k hk⟩
theorem Src.below {w w' : World} {B len : Nat} (h : Src w B len) (hb : Below w.heap.size w w') : Src w' B len := h.grow (bgrow hb) (fun x hx => by cases hx)

theorem results_tmp3 {fn : Func} {t u v : Tmp} (h : fn.results = #[.tmp t, .tmp u, .tmp v]) (tmps : Array Value) (P : Program) (w : World) :
    (results fn tmps).run P w = .ok (.tuple #[tmps.getD t undef, tmps.getD u undef, tmps.getD v undef]) w := by
  simp [results, h]
set_option maxHeartbeats 4000000 in
set_option maxRecDepth 100000 in
theorem cDrawRep (A : Option Addr) (len cap : Nat) (w : World) (hlen : len ≤ 1048576) (h : CodeIn w A len) :
    Calls Tryd.prog 13 #[.slice A len cap] w (TriPost w) := by
  have C0 := Lib.hid (cFrom A len cap w hlen h)
  clear h
  go_enter Tryd.func13, Tryd.ntmps13
  go_wp2_with fail
  refine C0.out.mono ?_
  rintro e w1 ⟨rfl, hS1, hb1⟩
  have C1 := Lib.hid (cDrawPhrase w.heap.size len w1 hlen hS1)
  clear hS1 C0
  go_wp2_with fail
  refine C1.out.mono ?_
  rintro e w2 ⟨t, ht, rfl, hS2, g2⟩
  have B2 := Lib.hid (below_of_src hb1 g2)
  have HS2 := Lib.hid hS2
  have hl2 := hS2.lt
  clear hS2 g2 C1 hb1
  -- two words are drawn
  have TWO : ∀ W, Src W w.heap.size len → Hid (Calls Tryd.prog 41 #[.pointer (some ⟨w.heap.size, 0, none⟩)] W (TextPost 64 W w.heap.size len)) := fun W hW => Lib.hid (cDrawWord w.heap.size len W hlen hW)
  have HTWO := Lib.hid TWO
  clear TWO
  cases hp : wordsB (spaceB t)
  · have CP := Lib.hid (cPhrase_bad t w2 (by omega) hp)
    clear hp
    go_wp2_with fail
    refine CP.out.mono ?_
    rintro e w3 ⟨rfl, hb3⟩
    have HS3 := Lib.hid (HS2.out.below hb3)
    have B3 := Lib.hid (B2.out.trans (hb3.mono B2.out.size))
    clear hb3 CP
    have CT := HTWO.out w3 HS3.out
    go_wp2_with fail
    refine CT.out.mono ?_
    rintro e w4 ⟨y, hy, rfl, hS4, g4⟩
    have B4 := Lib.hid (below_of_src B3.out g4)
    have CU := HTWO.out w4 hS4
    clear hS4 g4 CT
    go_wp2_with fail
    refine CU.out.mono ?_
    rintro e w5 ⟨z, hz, rfl, hS5, g5⟩
    have B5 := Lib.hid (below_of_src B4.out g5)
    clear hS5 g5 CU
    go_wp2_with fail
    refine bodyPost_ret (results_tmp3 rfl _ _ _) rfl ?_
    exact ⟨t, y, z, by omega, by omega, by omega, rfl, B5.out⟩
  · have CP := Lib.hid (cPhrase_ok t w2 (by omega) hp)
    have hpos := space_pos t
    have hwm : ∀ x ∈ spaceB t, x.size ≤ 16 := fun x hx => (word_size x (by unfold wordsB at hp; rw [List.all_eq_true] at hp; exact hp x hx)).2
    obtain ⟨xs, hxs⟩ : ∃ xs, xs = spaceB t := ⟨_, rfl⟩
    rw [← hxs] at CP hpos hwm
    have HW := Lib.hid hwm
    clear hp hxs hwm
    by_cases h8 : xs.length ≤ 8
    · rw [decide_eq_true h8] at CP
      obtain ⟨k, hk⟩ : ∃ k, k = xs.length := ⟨_, rfl⟩
      rw [← hk] at CP hpos h8
      have HK := Lib.hid hk
      clear hk
      go_wp2_with fail
      refine CP.out.mono ?_
      rintro e w3 ⟨v, rfl, hO3, hb3⟩
      obtain ⟨g, c, hv, hg2, hgl⟩ := World.ownsRow.form hO3 hpos
      subst hv
      have HS3 := Lib.hid (HS2.out.below hb3)
      have B3 := Lib.hid (B2.out.trans (hb3.mono B2.out.size))
      have CN := Lib.hid (cNext w.heap.size len 3 w3 hlen (by omega) (by omega) HS3.out)
      have HO3 := Lib.hid hO3
      clear hb3 CP hO3
      go_wp2_with fail
      refine CN.out.mono ?_
      rintro e w4 ⟨r, hr0, hr1, rfl, hS4, g4⟩
      have B4 := Lib.hid (below_of_src B3.out g4)
      have HS4 := Lib.hid hS4
      have hgB : g ≠ w.heap.size := by omega
      have hgl4 : g < w4.heap.size := Nat.lt_of_lt_of_le hgl g4.size
      have HCELL : Hid (∀ j x, xs[j]? = some x → w4.cell? ⟨g, j, none⟩ = some (.string x)) := Lib.hid (fun j x hx => g4.cell ((HO3.out.cellAt j (by have := (List.getElem?_eq_some_iff.1 hx).1; have := HK.out; omega)).trans (strV_at _ _ _ hx)) (by simp; omega))
      clear hS4 g4 CN HO3 hr1
      by_cases h0 : 0 < r
      · have z0 : decide ((0 : Int) < r) = true := decide_eq_true h0
        have HPICK : Hid (∀ (W : World) (q0 : Int), 0 ≤ q0 → (q0 < (k : Int) ∨ q0 = 0) → w4.grownBy W (some w.heap.size) → ∃ (q : Nat) (x : ByteArray), q0 = (q : Int) ∧ (q : Int) < (k : Int) ∧ x.size ≤ 16 ∧ W.cell? ⟨g, q, none⟩ = some (.string x)) := Lib.hid (fun W q0 h1 h2 hW => by
          obtain ⟨q, rfl⟩ := Int.eq_ofNat_of_zero_le h1
          have hq : q < k := by omega
          have hx : xs[q]? = some (xs[q]'(by have := HK.out; omega)) := List.getElem?_eq_getElem _
          exact ⟨q, _, rfl, by omega, HW.out _ (List.getElem_mem _), hW.cell (HCELL.out q _ hx) (by simp; omega)⟩)
        clear h0
        go_wp2_with fail
        go_region_with (first
          | (go_at_call 40; refine (cNextC w.heap.size len (k : Int) w4 _ hlen (by omega) (by omega) ?hg ?hs).mono ?_; (case hg => first | exact gdr_ (World.grownBy.refl _ _) | exact World.grownBy.refl _ _); (case hs => first | exact Src.drw HS4.out | exact HS4.out); rintro e w5 ⟨q0, hq0, hq1, rfl, hS5, g5, g5'⟩; obtain ⟨q, x, rfl, hqk, hx16, hcx⟩ := HPICK.out w5 q0 hq0 hq1 g5; have hqn : (0 : Int) ≤ (q : Int) := Int.natCast_nonneg _)
          | (go_at_call 41; refine (cDrawWord w.heap.size len _ hlen ?hs2).mono ?_; (case hs2 => first | exact Src.drw hS5 | exact hS5); rintro e w6 ⟨y, hy, rfl, hS6, g6⟩; have hcx6 : w6.cell? ⟨g, q, none⟩ = some (.string x) := g6.cell hcx (some_ne3 hgB)))
        all_goals
          have B6 := Lib.hid (below_of_src B4.out (g5.trans g6))
          go_wp2_with fail
          refine bodyPost_ret (results_tmp3 rfl _ _ _) rfl ?_
          exact ⟨t, x, y, by omega, by omega, by omega, rfl, B6.out⟩
      · have z0 : decide ((0 : Int) < r) = false := decide_eq_false h0
        have CT := HTWO.out w4 HS4.out
        clear h0
        go_wp2_with fail
        refine CT.out.mono ?_
        rintro e w5 ⟨y, hy, rfl, hS5, g5⟩
        have B5 := Lib.hid (below_of_src B4.out g5)
        have CU := HTWO.out w5 hS5
        clear hS5 g5 CT
        go_wp2_with fail
        refine CU.out.mono ?_
        rintro e w6 ⟨z, hz, rfl, hS6, g6⟩
        have B6 := Lib.hid (below_of_src B5.out g6)
        clear hS6 g6 CU
        go_wp2_with fail
        refine bodyPost_ret (results_tmp3 rfl _ _ _) rfl ?_
        exact ⟨t, y, z, by omega, by omega, by omega, rfl, B6.out⟩
    · rw [decide_eq_false h8] at CP
      go_wp2_with fail
      refine CP.out.mono ?_
      rintro e w3 ⟨v, rfl, hO3, hb3⟩
      have HS3 := Lib.hid (HS2.out.below hb3)
      have B3 := Lib.hid (B2.out.trans (hb3.mono B2.out.size))
      clear hb3 CP hO3
      have CT := HTWO.out w3 HS3.out
      go_wp2_with fail
      refine CT.out.mono ?_
      rintro e w4 ⟨y, hy, rfl, hS4, g4⟩
      have B4 := Lib.hid (below_of_src B3.out g4)
      have CU := HTWO.out w4 hS4
      clear hS4 g4 CT
      go_wp2_with fail
      refine CU.out.mono ?_
      rintro e w5 ⟨z, hz, rfl, hS5, g5⟩
      have B5 := Lib.hid (below_of_src B4.out g5)
      clear hS5 g5 CU
      go_wp2_with fail
      refine bodyPost_ret (results_tmp3 rfl _ _ _) rfl ?_
      exact ⟨t, y, z, by omega, by omega, by omega, rfl, B5.out⟩
end Go.Proofs.YtdbbolnmcbhflaaDoor
