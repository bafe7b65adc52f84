/-
  Slices of texts of any length: what a walk holds of one, and the contracts of IsAlphabet and of the laws' likeTexts at it.
-/
import Derived.Test.YtdbbolnmcbhflaaDoorAlphaI
import Derived.Test.YtdbbolnmcbhflaaDoorAreWords
import Derived.Handy
namespace Go.Proofs.YtdbbolnmcbhflaaDoor
set_option linter.unusedVariables false
open Go.RowKit

/-- A slice that holds the texts xs, in a block below B. -/
def TextAt (w : World) (B : Nat) (A : Option Addr) (n : Nat) (xs : List ByteArray) : Prop :=
  n = xs.length ∧ (0 < n → ∃ b o, A = some ⟨b, o, none⟩ ∧ b < B ∧ ∀ (j : Nat) x, xs[j]? = some x → w.cell? ⟨b, o + j, none⟩ = some (.string x))
theorem TextAt.below {w w' : World} {B C : Nat} {A : Option Addr} {n : Nat} {xs : List ByteArray} (h : TextAt w B A n xs) (hb : Below C w w') (hBC : B ≤ C) : TextAt w' B A n xs :=
  ⟨h.1, fun hp => by obtain ⟨b, o, h1, h2, h3⟩ := h.2 hp; exact ⟨b, o, h1, h2, fun j x hx => (hb.cell (by exact Nat.lt_of_lt_of_le h2 hBC)).trans (h3 j x hx)⟩⟩
theorem TextAt.more {w : World} {B C : Nat} {A : Option Addr} {n : Nat} {xs : List ByteArray} (h : TextAt w B A n xs) (hBC : B ≤ C) : TextAt w C A n xs :=
  ⟨h.1, fun hp => by obtain ⟨b, o, h1, h2, h3⟩ := h.2 hp; exact ⟨b, o, h1, Nat.lt_of_lt_of_le h2 hBC, h3⟩⟩
theorem TextAt.drewN {w : World} {B : Nat} {A : Option Addr} {n : Nat} {xs : List ByteArray} (h : TextAt w B A n xs) (m : Nat) : TextAt (w.drewN m) B A n xs := h
theorem below_drN {B : Nat} {a w : World} (h : Below B a w) (n : Nat) : Below B a (w.drewN n) := ⟨h.os, h.tape, h.output, h.size, h.block⟩
set_option maxHeartbeats 1000000 in
set_option maxRecDepth 100000 in
/-- Two slices with the same texts are equal. -/
theorem cLikeT (g o cap g' o' cap' n : Nat) (xs : List ByteArray) (w : World) (hn : n = xs.length) (hbig : n ≤ 1099511627776)
    (h1 : ∀ (j : Nat) x, xs[j]? = some x → w.cell? ⟨g, o + j, none⟩ = some (.string x)) (h2 : ∀ (j : Nat) x, xs[j]? = some x → w.cell? ⟨g', o' + j, none⟩ = some (.string x)) :
    Calls Tryd.prog 17 #[.slice (some ⟨g, o, none⟩) n cap, .slice (some ⟨g', o', none⟩) n cap'] w fun e w' => e = .returned (.bool true) ∧ ∃ m, w' = w.drewN m := by
  have HN := Lib.hid hn
  have H1 := Lib.hid h1
  have H2 := Lib.hid h2
  clear hn h1 h2
  go_enter Tryd.func17, Tryd.ntmps17
  go_wp2
  go_loopw [5] (fun i wr => ∃ j m : Nat, j ≤ n ∧ i = .int .i64 j ∧ wr = w.drewN m) (fun i _ => n - (intOf i).toNat)
  case atStart => exact ⟨0, 0, Nat.zero_le _, rfl, rfl⟩
  case round =>
    obtain ⟨j, m, hj, rfl, rfl⟩ := hrel
    by_cases hlt : j < n
    · obtain ⟨x, hx⟩ : ∃ x, xs[j]? = some x := ⟨xs[j]'(by have := HN.out; omega), List.getElem?_eq_getElem _⟩
      have c1 : w.cell? ⟨g, o + j, none⟩ = some (.string x) := H1.out j x hx
      have c2 : w.cell? ⟨g', o' + j, none⟩ = some (.string x) := H2.out j x hx
      clear hx
      have e1 : (0 : Int) ≤ (j : Int) := Int.natCast_nonneg _
      have e2 : (j : Int) < (n : Int) := by omega
      go_wp2
      go_quiet (fail)
      go_wp2
      go_roundw
      case rel => exact ⟨j + 1, _, by omega, by go_num, rfl⟩
      case measure => simp [intOf]; omega
    · go_wp2
      go_ret
      exact ⟨rfl, m, rfl⟩
/-- Two slices of length 0 are equal. -/
theorem cLikeT_none (A A' : Option Addr) (cap cap' : Nat) (w : World) :
    Calls Tryd.prog 17 #[.slice A 0 cap, .slice A' 0 cap'] w fun e w' => e = .returned (.bool true) ∧ w = w' := by
  go_enter Tryd.func17, Tryd.ntmps17
  go_wp2
  refine wp_loop_rounds 1 ?_
  rw [rounds_succ]
  go_wp2
  go_ret
  exact ⟨rfl, rfl⟩
theorem tLikeAny (A A' : Option Addr) (cap cap' n B C : Nat) (xs : List ByteArray) (w : World) (hbig : n ≤ 1048576) (h1 : TextAt w B A n xs) (h2 : TextAt w C A' n xs) :
    Calls Tryd.prog 17 #[.slice A n cap, .slice A' n cap'] w fun e w' => e = .returned (.bool true) ∧ ∃ m, w' = w.drewN m := by
  rcases Nat.eq_zero_or_pos n with rfl | hp
  · exact (cLikeT_none _ _ _ _ _).mono fun e w' ⟨he, hw⟩ => ⟨he, 0, hw.symm⟩
  · obtain ⟨b, o, rfl, hb, hc⟩ := h1.2 hp
    obtain ⟨b', o', rfl, hb', hc'⟩ := h2.2 hp
    exact cLikeT b o cap b' o' cap' n xs w h1.1 (by omega) hc hc'

theorem tIsAlpha_spec (A : Option Addr) (n cap B : Nat) (xs : List ByteArray) (w : World) (hbig : n ≤ 1048576) (hs : ∀ x ∈ xs, x.size ≤ maxLen) (h : TextAt w B A n xs) :
    Calls Tryd.prog 59 #[.slice A n cap] w fun e w' => e = .returned (.bool (alphaB xs)) ∧ w = w' := by
  rcases Nat.eq_zero_or_pos n with rfl | hp
  · refine (cIsAlpha_spec_none A cap w).mono ?_
    rintro e w' ⟨rfl, rfl⟩
    exact ⟨by rw [alpha_none xs (by have := h.1; omega)], rfl⟩
  · obtain ⟨b, o, rfl, hb, hc⟩ := h.2 hp
    exact cIsAlpha_spec b o cap n xs w h.1 (by unfold maxLen; omega) hs hc
theorem tAlphaOf (A : Option Addr) (n cap : Nat) (xs : List ByteArray) (w : World) (hbig : n ≤ 1048576) (hs : ∀ x ∈ xs, x.size ≤ maxLen) (h : TextAt w w.heap.size A n xs) :
    Calls Tryd.prog 61 #[.slice A n cap] w fun e w' => e = .returned (dictV (alphaB xs) w.heap.size) ∧ (alphaB xs = true → Dict w' w.heap.size xs) ∧ Below w.heap.size w w' := by
  rcases Nat.eq_zero_or_pos n with rfl | hp
  · refine (cAlphaOf_none A cap w).mono ?_
    rintro e w' ⟨rfl, rfl⟩
    have ha := alpha_none xs (by have := h.1; omega)
    exact ⟨by rw [ha]; rfl, fun h => (by rw [ha] at h; cases h), Below.refl _ _⟩
  · obtain ⟨b, o, rfl, hb, hc⟩ := h.2 hp
    exact cAlphaOf b o cap n xs w h.1 hp (by unfold maxLen; omega) hs hb hc
theorem tIsAlpha (A : Option Addr) (n cap : Nat) (xs : List ByteArray) (w : World) (hbig : n ≤ 1048576) (hs : ∀ x ∈ xs, x.size ≤ maxLen) (h : TextAt w w.heap.size A n xs) :
    Calls Tryd.prog 35 #[.slice A n cap] w fun e w' => e = .returned (.bool (alphaB xs)) ∧ Below w.heap.size w w' := by
  rcases Nat.eq_zero_or_pos n with rfl | hp
  · refine (cIsAlpha_none A cap w).mono ?_
    rintro e w' ⟨rfl, rfl⟩
    exact ⟨by rw [alpha_none xs (by have := h.1; omega)], Below.refl _ _⟩
  · obtain ⟨b, o, rfl, hb, hc⟩ := h.2 hp
    exact cIsAlpha b o cap n xs w h.1 hp (by unfold maxLen; omega) hs hb hc
end Go.Proofs.YtdbbolnmcbhflaaDoor
