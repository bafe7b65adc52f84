/-
  Slices of texts of any length: what a walk holds of one, and the contracts of the laws' helpers at it.
-/
import Derived.Test.YtdbbolnmcbhflaaStrArgs
import Derived.Test.YtdbbolnmcbhflaaEqS
import Derived.Test.YtdbbolnmcbhflaaAlphaI
namespace Go.Proofs.Ytdbbolnmcbhflaa
set_option linter.unusedVariables false
open Go.RowKit

/-- A slice that holds the texts xs, in a block below B. -/
def TextAt (w : World) (B : Nat) (A : Option Addr) (n : Nat) (xs : List ByteArray) : Prop :=
  n = xs.length ∧ (0 < n → ∃ b o, A = some ⟨b, o, none⟩ ∧ b < B ∧ ∀ (j : Nat) x, xs[j]? = some x → w.cell? ⟨b, o + j, none⟩ = some (.string x))
theorem TextAt.below {w w' : World} {B C : Nat} {A : Option Addr} {n : Nat} {xs : List ByteArray} (h : TextAt w B A n xs) (hb : Below C w w') (hBC : B ≤ C) : TextAt w' B A n xs :=
  ⟨h.1, fun hp => by obtain ⟨b, o, h1, h2, h3⟩ := h.2 hp; exact ⟨b, o, h1, h2, fun j x hx => (hb.cell (by exact Nat.lt_of_lt_of_le h2 hBC)).trans (h3 j x hx)⟩⟩
theorem TextAt.more {w : World} {B C : Nat} {A : Option Addr} {n : Nat} {xs : List ByteArray} (h : TextAt w B A n xs) (hBC : B ≤ C) : TextAt w C A n xs :=
  ⟨h.1, fun hp => by obtain ⟨b, o, h1, h2, h3⟩ := h.2 hp; exact ⟨b, o, h1, Nat.lt_of_lt_of_le h2 hBC, h3⟩⟩
theorem TextAt.drewN {w : World} {B : Nat} {A : Option Addr} {n : Nat} {xs : List ByteArray} (h : TextAt w B A n xs) (m : Nat) : TextAt (w.drewN m) B A n xs := h
theorem below_drN {B : Nat} {a w : World} (h : Below B a w) (n : Nat) : Below B a (w.drewN n) := ⟨h.os, h.tape, h.output, h.size, h.block⟩
theorem textAt_arg {w : World} {a : Option Addr} {n cap : Nat} {zs : List ByteArray} (h : IsStrs w a n cap zs) :
    n ≤ maxLen ∧ (∀ x ∈ zs.take n, x.size ≤ maxLen) ∧ TextAt w w.heap.size a n (zs.take n) := by
  rcases Nat.eq_zero_or_pos n with rfl | hp
  · exact ⟨Nat.zero_le _, by simp, by simp, fun h => absurd h (by omega)⟩
  · obtain ⟨b, o, rfl, hb, hl, hm, hc, hs⟩ := h.row hp
    exact ⟨hm, hs, hl.symm, fun _ => ⟨b, o, rfl, hb, hc⟩⟩

theorem tIsAlpha_spec (A : Option Addr) (n cap B : Nat) (xs : List ByteArray) (w : World) (hbig : n ≤ 1048576) (hs : ∀ x ∈ xs, x.size ≤ maxLen) (h : TextAt w B A n xs) :
    Calls Try.prog 57 #[.slice A n cap] w fun e w' => e = .returned (.bool (alphaB xs)) ∧ w = w' := by
  rcases Nat.eq_zero_or_pos n with rfl | hp
  · refine (cIsAlpha_spec_none A cap w).mono ?_
    rintro e w' ⟨rfl, rfl⟩
    exact ⟨by rw [alpha_none xs (by have := h.1; omega)], rfl⟩
  · obtain ⟨b, o, rfl, hb, hc⟩ := h.2 hp
    exact cIsAlpha_spec b o cap n xs w h.1 (by unfold maxLen; omega) hs hc
theorem tAlphaOf (A : Option Addr) (n cap : Nat) (xs : List ByteArray) (w : World) (hbig : n ≤ 1048576) (hs : ∀ x ∈ xs, x.size ≤ maxLen) (h : TextAt w w.heap.size A n xs) :
    Calls Try.prog 36 #[.slice A n cap] w fun e w' => e = .returned (dictV (alphaB xs) w.heap.size) ∧ (alphaB xs = true → Dict w' w.heap.size xs) ∧ Below w.heap.size w w' := by
  rcases Nat.eq_zero_or_pos n with rfl | hp
  · refine (cAlphaOf_none A cap w).mono ?_
    rintro e w' ⟨rfl, rfl⟩
    have ha := alpha_none xs (by have := h.1; omega)
    exact ⟨by rw [ha]; rfl, fun h => (by rw [ha] at h; cases h), Below.refl _ _⟩
  · obtain ⟨b, o, rfl, hb, hc⟩ := h.2 hp
    exact cAlphaOf b o cap n xs w h.1 hp (by unfold maxLen; omega) hs hb hc
theorem tIsAlpha (A : Option Addr) (n cap : Nat) (xs : List ByteArray) (w : World) (hbig : n ≤ 1048576) (hs : ∀ x ∈ xs, x.size ≤ maxLen) (h : TextAt w w.heap.size A n xs) :
    Calls Try.prog 43 #[.slice A n cap] w fun e w' => e = .returned (.bool (alphaB xs)) ∧ Below w.heap.size w w' := by
  rcases Nat.eq_zero_or_pos n with rfl | hp
  · refine (cIsAlpha_none A cap w).mono ?_
    rintro e w' ⟨rfl, rfl⟩
    exact ⟨by rw [alpha_none xs (by have := h.1; omega)], Below.refl _ _⟩
  · obtain ⟨b, o, rfl, hb, hc⟩ := h.2 hp
    exact cIsAlpha b o cap n xs w h.1 hp (by unfold maxLen; omega) hs hb hc
end Go.Proofs.Ytdbbolnmcbhflaa
