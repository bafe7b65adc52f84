/-
  The contract of spec.l03Next: the index of the longest letter with which a text begins, or -1.
-/
import Derived.Test.YtdbbolnmcbhflaaAlphaI
import Derived.Test.YtdbbolnmcbhflaaSpellPlain
import Derived.BigQuiet
import Derived.Deep.QuietTactic
namespace Go.Proofs.Ytdbbolnmcbhflaa
set_option linter.unusedVariables false
open Go.RowKit

def isPre (x s : ByteArray) : Prop := x.size ≤ s.size ∧ s.extract 0 x.size = x
def nextI (xs : List ByteArray) (s : ByteArray) : Int := if 0 < nextN xs s then lookI xs (letterL xs s) else -1
def BestAt (xs : List ByteArray) (s : ByteArray) (k : Nat) (bi : Int) : Prop :=
  (bi = -1 ∧ ∀ (j : Nat) x, j < k → xs[j]? = some x → ¬ isPre x s) ∨
  (∃ (q : Nat) (y : ByteArray), bi = (q : Int) ∧ q < k ∧ xs[q]? = some y ∧ isPre y s ∧ ∀ (j : Nat) x, j < k → xs[j]? = some x → isPre x s → x.size ≤ y.size)
theorem best_zero (xs : List ByteArray) (s : ByteArray) : BestAt xs s 0 (-1) := .inl ⟨rfl, fun j x h => absurd h (by omega)⟩
theorem best_miss {xs : List ByteArray} {s : ByteArray} {k : Nat} {bi : Int} {x : ByteArray} (h : BestAt xs s k bi) (hx : xs[k]? = some x) (hn : ¬ isPre x s) : BestAt xs s (k + 1) bi := by
  rcases h with ⟨h1, h2⟩ | ⟨q, y, h1, h2, h3, h4, h5⟩
  · refine .inl ⟨h1, fun j z hj hz => ?_⟩
    rcases Nat.lt_or_ge j k with hl | hl
    · exact h2 j z hl hz
    · obtain rfl : j = k := by omega
      rw [hx] at hz; cases hz; exact hn
  · refine .inr ⟨q, y, h1, by omega, h3, h4, fun j z hj hz hp => ?_⟩
    rcases Nat.lt_or_ge j k with hl | hl
    · exact h5 j z hl hz hp
    · obtain rfl : j = k := by omega
      rw [hx] at hz; cases hz; exact absurd hp hn
theorem best_first {xs : List ByteArray} {s : ByteArray} {k : Nat} {x : ByteArray} (h : BestAt xs s k (-1)) (hx : xs[k]? = some x) (hp : isPre x s) : BestAt xs s (k + 1) (k : Int) := by
  rcases h with ⟨h1, h2⟩ | ⟨q, y, h1, _⟩
  · refine .inr ⟨k, x, rfl, by omega, hx, hp, fun j z hj hz hq => ?_⟩
    rcases Nat.lt_or_ge j k with hl | hl
    · exact absurd hq (h2 j z hl hz)
    · obtain rfl : j = k := by omega
      rw [hx] at hz; cases hz; exact Nat.le_refl _
  · omega
theorem best_more {xs : List ByteArray} {s : ByteArray} {k q : Nat} {x y : ByteArray} (h : BestAt xs s k (q : Int)) (hy : xs[q]? = some y) (hx : xs[k]? = some x) (hp : isPre x s) (hl : y.size < x.size) : BestAt xs s (k + 1) (k : Int) := by
  rcases h with ⟨h1, h2⟩ | ⟨q', y', h1, h2, h3, h4, h5⟩
  · omega
  · obtain rfl : q = q' := by omega
    rw [hy] at h3; cases h3
    refine .inr ⟨k, x, rfl, by omega, hx, hp, fun j z hj hz hq => ?_⟩
    rcases Nat.lt_or_ge j k with hlt | hlt
    · have := h5 j z hlt hz hq; omega
    · obtain rfl : j = k := by omega
      rw [hx] at hz; cases hz; exact Nat.le_refl _
theorem best_less {xs : List ByteArray} {s : ByteArray} {k q : Nat} {x y : ByteArray} (h : BestAt xs s k (q : Int)) (hy : xs[q]? = some y) (hx : xs[k]? = some x) (hl : x.size ≤ y.size) : BestAt xs s (k + 1) (q : Int) := by
  rcases h with ⟨h1, h2⟩ | ⟨q', y', h1, h2, h3, h4, h5⟩
  · omega
  · obtain rfl : q = q' := by omega
    have h3' := h3
    rw [hy] at h3'; cases h3'
    refine .inr ⟨q, y, rfl, by omega, h3, h4, fun j z hj hz hq => ?_⟩
    rcases Nat.lt_or_ge j k with hlt | hlt
    · exact h5 j z hlt hz hq
    · obtain rfl : j = k := by omega
      rw [hx] at hz; cases hz; exact hl
theorem best_end {xs : List ByteArray} {s : ByteArray} {k : Nat} {bi : Int} (h : BestAt xs s k bi) (hk : xs.length ≤ k) (hg : goodB xs = true) : nextI xs s = bi := by
  rcases h with ⟨h1, h2⟩ | ⟨q, y, h1, h2, h3, h4, h5⟩
  · unfold nextI
    rw [if_neg, h1]
    intro hp
    have hm := nextN_in xs s hp
    obtain ⟨j, hj, he⟩ := List.getElem_of_mem hm
    have hl := nextN_le xs s
    refine h2 j (s.extract 0 (nextN xs s)) (by omega) (by rw [List.getElem?_eq_getElem hj, he]) ⟨?_, ?_⟩
    · rw [ext_size s _ _ hl.2]; omega
    · rw [ext_size s _ _ hl.2]; rfl
  · have hys := letter_size y (good_mem xs hg y (List.mem_of_getElem? h3))
    have hn : nextN xs s = y.size := by
      refine nextN_at xs s y.size hys.1 hys.2 h4.1 (by rw [h4.2]; exact List.mem_of_getElem? h3) (fun M h6 h7 h8 hm => ?_)
      obtain ⟨j, hj, he⟩ := List.getElem_of_mem hm
      have := h5 j (s.extract 0 M) (by omega) (by rw [List.getElem?_eq_getElem hj, he]) ⟨by rw [ext_size s _ _ h8]; omega, by rw [ext_size s _ _ h8]; rfl⟩
      rw [ext_size s _ _ h8] at this; omega
    have hy : letterL xs s = y := by unfold letterL; rw [hn]; exact h4.2
    have hmem : y ∈ xs := List.mem_of_getElem? h3
    unfold nextI
    rw [if_pos (by omega), hy, h1]
    unfold lookI
    rw [if_pos hmem]
    have hpos : posL xs y = q := by
      refine pos_at xs q y h3 ?_
      intro hin
      have := good_twice xs q y h3 hin
      rw [hg] at this; cases this
    rw [hpos]

set_option maxHeartbeats 1000000 in
set_option maxRecDepth 100000 in
theorem cNextS (b o c n : Nat) (xs : List ByteArray) (s : ByteArray) (w : World) (hn : n = xs.length) (hg : goodB xs = true) (hbig : n ≤ 40) (hs : s.size ≤ maxLen)
    (hc : ∀ (j : Nat) x, xs[j]? = some x → w.cell? ⟨b, o + j, none⟩ = some (.string x)) :
    Calls Try.prog 58 #[.slice (some ⟨b, o, none⟩) n c, .string s] w fun e w' => e = .returned (.int .i64 (nextI xs s)) ∧ ∃ m, w' = w.drewN m := by
  unfold maxLen at hs
  have HN := Lib.hid hn
  have HC := Lib.hid hc
  have HG := Lib.hid hg
  clear hn hc hg
  go_enter Try.func58, Try.ntmps58
  go_wp2
  go_loopw [5, 6] (fun bv i wr => ∃ (k m : Nat) (bi : Int), k ≤ n ∧ i = .int .i64 k ∧ bv = .int .i64 bi ∧ wr = w.drewN m ∧ Hid (BestAt xs s k bi)) (fun _ i _ => n - (intOf i).toNat)
  case atStart => exact ⟨0, 0, _, Nat.zero_le _, rfl, rfl, rfl, Lib.hid (best_zero xs s)⟩
  case round =>
    obtain ⟨k, m, bi, hk, rfl, rfl, rfl, HB⟩ := hrel
    by_cases hlt : k < n
    · obtain ⟨x, hx⟩ : ∃ x, xs[k]? = some x := ⟨xs[k]'(by have := HN.out; omega), List.getElem?_eq_getElem _⟩
      have hcx : w.cell? ⟨b, o + k, none⟩ = some (.string x) := HC.out k x hx
      have hxs := letter_size x (good_mem xs HG.out x (List.mem_of_getElem? hx))
      have hx1 := hxs.1
      have hx3 := hxs.2
      have HX := Lib.hid hx
      have e1 : (0 : Int) ≤ (k : Int) := Int.natCast_nonneg _
      have e2 : (k : Int) < (n : Int) := by omega
      clear hx hxs
      by_cases hsz : x.size ≤ s.size
      · have hd1 : decide ((x.size : Int) ≤ (s.size : Int)) = true := decide_eq_true (by omega)
        by_cases hpe : s.extract 0 x.size = x
        · have hd2 : ((s.extract 0 x.size).toList == x.toList) = true := by rw [toList_beq]; exact decide_eq_true hpe
          have HP : Hid (isPre x s) := Lib.hid ⟨hsz, hpe⟩
          clear hpe
          by_cases hb : bi < 0
          · have hd3 : decide (bi < 0) = true := decide_eq_true hb
            have hbi : bi = -1 := by
              rcases HB.out with ⟨h, _⟩ | ⟨q, y, h, _⟩ <;> omega
            subst hbi
            go_wp2
            go_quiet (fail)
            go_wp2
            go_roundw
            case rel => exact ⟨k + 1, _, _, by omega, by go_num, rfl, rfl, Lib.hid (best_first HB.out HX.out HP.out)⟩
            case measure => simp [intOf]; omega
          · have hd3 : decide (bi < 0) = false := decide_eq_false hb
            obtain ⟨q, y, rfl, hq, hy⟩ : ∃ (q : Nat) (y : ByteArray), bi = (q : Int) ∧ q < k ∧ xs[q]? = some y := by
              rcases HB.out with ⟨h, _⟩ | ⟨q, y, h, h2, h3, _⟩
              · omega
              · exact ⟨q, y, h, h2, h3⟩
            have hcy : w.cell? ⟨b, o + q, none⟩ = some (.string y) := HC.out q y hy
            have hys := (letter_size y (good_mem xs HG.out y (List.mem_of_getElem? hy))).2
            have HY := Lib.hid hy
            have e3 : (0 : Int) ≤ (q : Int) := Int.natCast_nonneg _
            have e4 : (q : Int) < (n : Int) := by omega
            clear hy hb
            by_cases hm : y.size < x.size
            · have hd4 : decide ((y.size : Int) < (x.size : Int)) = true := decide_eq_true (by omega)
              go_wp2
              go_quiet (fail)
              go_wp2
              go_roundw
              case rel => exact ⟨k + 1, _, _, by omega, by go_num, rfl, rfl, Lib.hid (best_more HB.out HY.out HX.out HP.out hm)⟩
              case measure => simp [intOf]; omega
            · have hd4 : decide ((y.size : Int) < (x.size : Int)) = false := decide_eq_false (by omega)
              go_wp2
              go_quiet (fail)
              go_wp2
              go_roundw
              case rel => exact ⟨k + 1, _, _, by omega, by go_num, rfl, rfl, Lib.hid (best_less HB.out HY.out HX.out (by omega))⟩
              case measure => simp [intOf]; omega
        · have hd2 : ((s.extract 0 x.size).toList == x.toList) = false := by rw [toList_beq]; exact decide_eq_false hpe
          have HP : Hid (¬ isPre x s) := Lib.hid (fun h => hpe h.2)
          clear hpe
          go_wp2
          go_quiet (fail)
          go_wp2
          go_roundw
          case rel => exact ⟨k + 1, _, _, by omega, by go_num, rfl, rfl, Lib.hid (best_miss HB.out HX.out HP.out)⟩
          case measure => simp [intOf]; omega
      · have hd1 : decide ((x.size : Int) ≤ (s.size : Int)) = false := decide_eq_false (by omega)
        have HP : Hid (¬ isPre x s) := Lib.hid (fun h => hsz h.1)
        go_wp2
        go_quiet (fail)
        go_wp2
        go_roundw
        case rel => exact ⟨k + 1, _, _, by omega, by go_num, rfl, rfl, Lib.hid (best_miss HB.out HX.out HP.out)⟩
        case measure => simp [intOf]; omega
    · go_wp2
      go_ret
      exact ⟨ret_int (best_end HB.out (by have := HN.out; omega) HG.out).symm, m, rfl⟩
end Go.Proofs.Ytdbbolnmcbhflaa
