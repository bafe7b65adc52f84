/-
  The contracts of spec.l01Own on numbers and of spec.DrawSharperTable.
-/
import Derived.Test.YtmbahbnadkmnkaaDraw7M
import Derived.Test.YtmbahbnadkmnkaaIntRow
import Derived.Test.YtmbahbnadkmnkaaSndC
namespace Go.Proofs.Ytmbahbnadkmnkaa
set_option linter.unusedVariables false
open Go.RowKit

def Own7 (n : Nat) (xs : List Int) (w : World) (e : Ending) (w' : World) : Prop :=
  ∃ g c, e = .returned (.slice (some ⟨g, 0, none⟩) n c) ∧ w'.ownsRow w.heap.size 2 1 (.slice (some ⟨g, 0, none⟩) n c) n (intV xs) ∧ w.heap.size ≤ g ∧ g < w'.heap.size ∧ Below w.heap.size w w'
theorem intV_get7 {xs : List Int} {j : Nat} {u : Value} (h : (intV xs)[j]? = some u) : ∃ x, xs[j]? = some x ∧ u = .int .i64 x := by
  unfold intV at h
  rw [List.getElem?_map] at h
  cases hx : xs[j]? with
  | none => rw [hx] at h; cases h
  | some x => rw [hx] at h; exact ⟨x, rfl, (Option.some.inj h).symm⟩
set_option maxHeartbeats 1000000 in
theorem cOwn7 (b o n c : Nat) (xs : List Int) (w : World) (hp : 1 ≤ n) (hb : n ≤ 1048576) (h : NumAt w w.heap.size (some ⟨b, o, none⟩) n xs) :
    Calls Try.prog 53 #[.slice (some ⟨b, o, none⟩) n c] w (Own7 n xs w) := by
  obtain ⟨i0, hi0, hz0, hz1, hz2⟩ := info_parts info_int7
  obtain ⟨b', o', e, hbl, hcel⟩ := h.2 (by omega)
  cases e
  have HL := Lib.hid h.1
  have HCEL := Lib.hid hcel
  clear h hcel
  go_enter Try.func53, Try.ntmps53
  go_wp2_with (at_builtin; refine wpList_append_lies _ rfl _ _ 27 rfl w.heap.size 2 i0 _ 1 8 Try.underlying27 hi0 hz0 hz1 hz2 rfl (by decide) _ 0 _ rfl (World.ownsRow_lit (e := 2) (base := w.heap.size) (size := 1) w #[] 0 (Nat.le_refl _) (by decide) rfl) ⟨b, o, none⟩ n c (intV xs) rfl ?c1 ?c2 ?c3 (by omega) ?c4 ?c5 ?c6 (w.heap.size + 1) (by simp) ?_)
  case c1 => rw [intV_len, HL.out]; omega
  case c2 =>
    intro j u hu
    obtain ⟨x, hx, rfl⟩ := intV_get7 hu
    rw [add_plain']
    exact (World.cell?_alloc_lt w _ ⟨b, o + j, none⟩ hbl).trans (HCEL.out j x hx)
  case c3 =>
    intro u hu
    obtain ⟨j, hj, rfl⟩ := List.getElem_of_mem hu
    obtain ⟨x, _, e⟩ := intV_get7 (List.getElem?_eq_getElem hj)
    rw [e]; rfl
  case c4 => unfold maxLen; omega
  case c5 => omega
  case c6 => simp
  intro g cap w1 hown hgrow hor hlt
  have hown2 : w1.ownsRow w.heap.size 2 1 (.slice (some ⟨g, 0, none⟩) n cap) n (intV xs) := by simpa using hown
  have HO := Lib.hid hown2
  have hbw : Below w.heap.size w w1 := ((Below.refl _ w).alloc (Nat.le_refl _) _).grown hgrow (by simp) (by intro k hk; simp [Value.ownBlock] at hk; omega)
  have hg0 : w.heap.size ≤ g := by
    rcases hor with h | h
    · simp [Value.ownBlock] at h; omega
    · omega
  clear hown hown2 hgrow hor
  go_wp2
  go_ret
  exact ⟨g, cap, rfl, HO.out, hg0, hlt, hbw⟩

theorem grown_setK (w : World) (g i : Nat) (x : Value) : w.grownBy (w.setCell ⟨g, i, none⟩ x) (some g) :=
  ⟨rfl, rfl, rfl, by simp, fun k hk hne => Below.heap_setCell _ _ _ k (by intro e; apply hne; rw [e])⟩
/-- Two drawn tables. -/
def SPost (w : World) (e : Ending) (w' : World) : Prop :=
  ∃ (g n c : Nat) (xs : List Int) (g2 n2 c2 : Nat) (ys : List Int), e = .returned (.tuple #[.slice (some ⟨g, 0, none⟩) n c, .slice (some ⟨g2, 0, none⟩) n2 c2]) ∧
    NumAt w' w'.heap.size (some ⟨g, 0, none⟩) n xs ∧ n ≤ 26 ∧ NumAt w' w'.heap.size (some ⟨g2, 0, none⟩) n2 ys ∧ n2 ≤ 26 ∧ Below w.heap.size w w'

set_option maxHeartbeats 4000000 in
set_option maxRecDepth 100000 in
theorem cDrawSharp (A : Option Addr) (len cap : Nat) (w : World) (hlen : len ≤ 1048576) (h : CodeIn w A len) :
    Calls Try.prog 15 #[.slice A len cap] w (SPost w) := by
  have C0 := Lib.hid (cFrom A len cap w hlen h)
  obtain ⟨B, hB⟩ : ∃ B, B = w.heap.size := ⟨_, rfl⟩
  have HB := Lib.hid hB
  rw [← hB] at C0
  clear h hB
  have CN := Lib.hid (fun (V : World) (n : Int) (hV : Src V B len) (h1 : -1000000000 ≤ n) (h2 : n ≤ 10000000000) => cNext B len n V hlen h1 h2 hV)
  go_enter Try.func15, Try.ntmps15
  go_wp2_with fail
  refine C0.out.mono ?_
  rintro e w1 ⟨rfl, hS1, hb1⟩
  have hlt1 := hS1.lt
  have B1 : Hid (Below w.heap.size w w1) := Lib.hid (by rw [← HB.out]; exact hb1)
  have C1 := Lib.hid (cTable B len w1 hlen hS1)
  clear hS1 hb1 C0
  go_wp2_with fail
  refine C1.out.mono ?_
  rintro e w2 ⟨g, n, c, xs, rfl, hO2, hn, hS2, g2⟩
  have B2 := Lib.hid (below_srcG B1.out (Nat.le_of_eq HB.out.symm) g2)
  have O2 : Hid (w2.ownsRow w1.heap.size 2 1 (.slice (some ⟨g, 0, none⟩) n c) n (intV xs)) := Lib.hid hO2
  have C2 := Lib.hid (cTable B len w2 hlen hS2)
  have hlt2 : B < w2.heap.size := Nat.lt_of_lt_of_le hlt1 g2.size
  clear hS2 g2 hO2 B1 C1
  go_wp2_with fail
  refine C2.out.mono ?_
  rintro e w3 ⟨gb, nb, cb, ys, rfl, hO3, hnb, hS3, g3⟩
  have B3 := Lib.hid (below_srcG B2.out (Nat.le_of_eq HB.out.symm) g3)
  have O3 := Lib.hid (own_srcB O2.out g3 hlt1)
  have P3 : Hid (w3.ownsRow w2.heap.size 2 1 (.slice (some ⟨gb, 0, none⟩) nb cb) nb (intV ys)) := Lib.hid hO3
  have S3 := Lib.hid hS3
  have hlt3 : B < w3.heap.size := Nat.lt_of_lt_of_le hlt2 g3.size
  clear hS3 g3 hO3 B2 O2 C2
  by_cases h26 : n = 26
  · subst h26
    go_wp2_with fail
    refine (CN.out _ 2 S3.out (by omega) (by omega)).mono ?_
    rintro e w4 ⟨r, hr0, hr1, rfl, hS4, g4⟩
    have B4 := Lib.hid (below_srcG B3.out (Nat.le_of_eq HB.out.symm) g4)
    have O4 := Lib.hid (own_srcB O3.out g4 hlt1)
    have P4 := Lib.hid (own_srcB P3.out g4 hlt2)
    have S4 := Lib.hid hS4
    clear hS4 g4 O3 P3 B3 S3 hr1
    by_cases hr : r = 0
    · subst hr
      have CO := Lib.hid (cOwn7 g 0 26 c xs w4 (by omega) (by omega) (own_num O4.out))
      clear P4 hr0
      go_wp2_with fail
      refine CO.out.mono ?_
      rintro e w5 ⟨go, co, rfl, hO5, hgo, hgl, hb5⟩
      have hlt4 := S4.out.lt
      have B5 := Lib.hid (B4.out.trans (hb5.mono B4.out.size))
      have S5 := Lib.hid (S4.out.below hb5)
      have O5 := Lib.hid ((Sp.row O4.out).next hb5).here
      have P5 : Hid (w5.ownsRow w4.heap.size 2 1 (.slice (some ⟨go, 0, none⟩) 26 co) 26 (intV xs)) := Lib.hid hO5
      have hgne : g ≠ go := by have := (O4.out.lt g rfl).2; omega
      have hBo : B < go := by omega
      have hwo : w.heap.size ≤ go := by have := B4.out.size; omega
      clear hO5 hb5 B4 S4 O4 CO
      go_wp2_with fail
      refine (CN.out _ 10 S5.out (by omega) (by omega)).mono ?_
      rintro e w6 ⟨f, hf0, hf1, rfl, hS6, g6⟩
      have B6 := Lib.hid (below_srcG B5.out (Nat.le_of_eq HB.out.symm) g6)
      have O6 := Lib.hid (own_srcB O5.out g6 hlt1)
      have P6 := Lib.hid (own_srcB P5.out g6 hlt4)
      have S6 := Lib.hid hS6
      clear hS6 g6 O5 P5 B5 S5
      go_wp2_with fail
      refine (CN.out _ 10 S6.out (by omega) (by omega)).mono ?_
      rintro e w7 ⟨t, ht0, ht1, rfl, hS7, g7⟩
      have B7 := Lib.hid (below_srcG B6.out (Nat.le_of_eq HB.out.symm) g7)
      have O7 := Lib.hid (own_srcB O6.out g7 hlt1)
      have P7 := Lib.hid (own_srcB P6.out g7 hlt4)
      clear hS7 g7 O6 P6 B6 S6
      go_wp2_with fail
      go_loopw [9] (fun i wr => ∃ (k : Nat) (zs : List Int), k ≤ 26 ∧ i = .int .i64 k ∧ Hid (wr.ownsRow w1.heap.size 2 1 (.slice (some ⟨g, 0, none⟩) 26 c) 26 (intV xs)) ∧ Hid (wr.ownsRow w4.heap.size 2 1 (.slice (some ⟨go, 0, none⟩) 26 co) 26 (intV zs)) ∧ Hid (Below w.heap.size w wr)) (fun i _ => 26 - (intOf i).toNat)
      case atStart => exact ⟨0, xs, by omega, rfl, O7, P7, B7⟩
      case round =>
        clear O7 P7 B7
        obtain ⟨k, zs, hk, rfl, HO, HP, HBW⟩ := hrel
        by_cases hlt : k < 26
        · have hk2 : (k : Int) < 26 := by omega
          have hk0 : (0 : Int) ≤ (k : Int) := by omega
          obtain ⟨z, hz⟩ : ∃ z, zs[k]? = some z := ⟨zs[k]'(by have := HP.out.1; rw [intV_len] at this; omega), List.getElem?_eq_getElem _⟩
          have kc : wr.cell? ⟨go, k, none⟩ = some (.int .i64 z) := (HP.out.cellAt k hlt).trans (intV_at _ _ _ hz)
          have hfz := HP.out.frozenAt k
          clear hz
          by_cases hzf : z = f
          · subst hzf
            have hst := (HP.out.stored k (.int .i64 t)).1
            rw [intV_set] at hst
            have HP2 := Lib.hid hst
            have hgr := (HP.out.stored k (.int .i64 t)).2
            have HO2 := Lib.hid (HO.out.kept (grown_setK wr go k (.int .i64 t)) (.inr (fun e => by simp [Value.ownBlock] at e; omega)))
            have HB2 := Lib.hid (HBW.out.setCell (p := ⟨go, k, none⟩) hwo (.int .i64 t))
            clear hst hgr
            go_wp2_with fail
            go_roundw
            case rel => exact ⟨k + 1, _, by omega, by go_num, HO2, HP2, HB2⟩
            case measure => simp [intOf]; omega
          · have dz : (z == f) = false := by rw [beq_eq_false_iff_ne]; exact hzf
            go_wp2_with fail
            go_roundw
            case rel => exact ⟨k + 1, zs, by omega, by go_num, HO, HP, HBW⟩
            case measure => simp [intOf]; omega
        · go_wp2_with fail
          go_ret2
          exact ⟨g, 26, c, xs, go, 26, co, zs, rfl, own_num HO.out, by omega, own_num HP.out, by omega, HBW.out⟩
    · have dr : (r == 0) = false := by rw [beq_eq_false_iff_ne]; exact hr
      go_wp2_with fail
      go_ret2
      exact ⟨g, 26, c, xs, gb, nb, cb, ys, rfl, own_num O4.out, by omega, own_num P4.out, hnb, B4.out⟩
  · have dn : ((n : Int) == 26) = false := by rw [beq_eq_false_iff_ne]; omega
    go_wp2_with fail
    go_ret2
    exact ⟨g, n, c, xs, gb, nb, cb, ys, rfl, own_num O3.out, hn, own_num P3.out, hnb, B3.out⟩
end Go.Proofs.Ytmbahbnadkmnkaa
