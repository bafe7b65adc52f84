/-
  Slices of texts of any length: what a walk holds of one, and the contracts of the laws' helpers at it.
-/
import Derived.Test.YtjofndiofacjjaaDoorStrArgs
import Derived.Test.YtjofndiofacjjaaDoorEqS
import Derived.Test.YtjofndiofacjjaaDoorIntRow
namespace Go.Proofs.YtjofndiofacjjaaDoor
set_option linter.unusedVariables false
open Go.RowKit

/-- A slice that holds the texts xs, in a block below B. -/
def TextAt (w : World) (B : Nat) (A : Option Addr) (n : Nat) (xs : List ByteArray) : Prop :=
  n = xs.length ∧ (0 < n → ∃ b o, A = some ⟨b, o, none⟩ ∧ b < B ∧ ∀ (j : Nat) x, xs[j]? = some x → w.cell? ⟨b, o + j, none⟩ = some (.string x))
theorem TextAt.below {w w' : World} {B C : Nat} {A : Option Addr} {n : Nat} {xs : List ByteArray} (h : TextAt w B A n xs) (hb : Below C w w') (hBC : B ≤ C) : TextAt w' B A n xs :=
  ⟨h.1, fun hp => by obtain ⟨b, o, h1, h2, h3⟩ := h.2 hp; exact ⟨b, o, h1, h2, fun j x hx => (hb.cell (by exact Nat.lt_of_lt_of_le h2 hBC)).trans (h3 j x hx)⟩⟩
theorem TextAt.more {w : World} {B C : Nat} {A : Option Addr} {n : Nat} {xs : List ByteArray} (h : TextAt w B A n xs) (hBC : B ≤ C) : TextAt w C A n xs :=
  ⟨h.1, fun hp => by obtain ⟨b, o, h1, h2, h3⟩ := h.2 hp; exact ⟨b, o, h1, Nat.lt_of_lt_of_le h2 hBC, h3⟩⟩
theorem TextAt.drewN {w : World} {B : Nat} {A : Option Addr} {n : Nat} {xs : List ByteArray} (h : TextAt w B A n xs) (m : Nat) : TextAt (w.drewN m) B A n xs := h
theorem below_drN {B : Nat} {a w : World} (h : Below B a w) (n : Nat) : Below B a (w.drewN n) := ⟨h.os, h.tape, h.output, h.size, h.block⟩
theorem textAt_arg {w : World} {a : Option Addr} {n cap : Nat} {zs : List ByteArray} (h : IsStrs w a n cap zs) :
    n ≤ maxLen ∧ (∀ x ∈ zs.take n, x.size ≤ maxLen) ∧ TextAt w w.heap.size a n (zs.take n) := by
  rcases Nat.eq_zero_or_pos n with rfl | hp
  · exact ⟨Nat.zero_le _, by simp, by simp, fun h => absurd h (by omega)⟩
  · obtain ⟨b, o, rfl, hb, hl, hm, hc, hs⟩ := h.row hp
    exact ⟨hm, hs, hl.symm, fun _ => ⟨b, o, rfl, hb, hc⟩⟩

theorem tSz (A : Option Addr) (n cap B : Nat) (xs : List ByteArray) (w : World) (hm : n ≤ maxLen) (hs : ∀ x ∈ xs, x.size ≤ maxLen) (h : TextAt w B A n xs) :
    Calls Tryd.prog 29 #[.slice A n cap, .int .i64 1048576] w (SomeR (SmallS n xs) w) := by
  rcases Nat.eq_zero_or_pos n with rfl | hp
  · refine (cSzS_none A cap w).mono ?_
    rintro e w' ⟨rfl, rfl⟩
    have hx : xs = [] := List.length_eq_zero_iff.1 h.1.symm
    exact ⟨1048576, ⟨by omega, .inr ⟨by omega, by simp [hx]⟩⟩, rfl, rfl⟩
  · obtain ⟨b, o, rfl, hb, hc⟩ := h.2 hp
    exact cSzS b o n cap xs w h.1 hm hs hc

theorem tToS (A : Option Addr) (n cap : Nat) (xs : List ByteArray) (w : World) (hbig : n ≤ 1048576) (h : TextAt w w.heap.size A n xs) :
    Calls Tryd.prog 31 #[.slice A n cap] w fun e w' => e = .returned (.slice (some ⟨w.heap.size, 0, none⟩) n n) ∧
      TextAt w' w'.heap.size (some ⟨w.heap.size, 0, none⟩) n xs ∧ (0 < n → w'.ownsRow w.heap.size 9 1 (.slice (some ⟨w.heap.size, 0, none⟩) n n) n (vals xs)) ∧ Below w.heap.size w w' := by
  rcases Nat.eq_zero_or_pos n with rfl | hp
  · refine (cToS_none A cap w).mono ?_
    rintro e w' ⟨rfl, hb⟩
    exact ⟨rfl, ⟨h.1, fun hp => absurd hp (by omega)⟩, fun hp => absurd hp (by omega), hb⟩
  · obtain ⟨b, o, rfl, hb, hc⟩ := h.2 hp
    refine (cToS b o n cap xs w h.1 hbig hb hc).mono ?_
    rintro e w' ⟨rfl, own, hbw⟩
    refine ⟨rfl, ⟨h.1, fun _ => ⟨_, 0, rfl, (own.lt _ rfl).2, fun j x hx => ?_⟩⟩, fun _ => own, hbw⟩
    rw [Nat.zero_add]
    exact (own.cellAt j (by have := (List.getElem?_eq_some_iff.1 hx).1; have := h.1; omega)).trans (vals_at _ _ _ hx)

theorem tEqS (g cap g' cap' n B C : Nat) (xs : List ByteArray) (w : World) (hbig : n ≤ 1048576) (h1 : TextAt w B (some ⟨g, 0, none⟩) n xs) (h2 : TextAt w C (some ⟨g', 0, none⟩) n xs) :
    Calls Tryd.prog 33 #[.slice (some ⟨g, 0, none⟩) n cap, .slice (some ⟨g', 0, none⟩) n cap'] w fun e w' => e = .returned (.bool true) ∧ ∃ m, w' = w.drewN m := by
  rcases Nat.eq_zero_or_pos n with rfl | hp
  · refine (cEqS_none _ _ _ _ _).mono ?_
    rintro e w' ⟨rfl, rfl⟩
    exact ⟨rfl, 0, rfl⟩
  · obtain ⟨b, o, e1, hb, hc⟩ := h1.2 hp
    obtain ⟨b', o', e2, hb', hc'⟩ := h2.2 hp
    obtain ⟨rfl, rfl⟩ : g = b ∧ 0 = o := by cases e1; exact ⟨rfl, rfl⟩
    obtain ⟨rfl, rfl⟩ : g' = b' ∧ 0 = o' := by cases e2; exact ⟨rfl, rfl⟩
    exact cEqS g cap g' cap' n xs w h1.1 (by omega) (fun j x hx => by have := hc j x hx; rwa [Nat.zero_add] at this) (fun j x hx => by have := hc' j x hx; rwa [Nat.zero_add] at this)

end Go.Proofs.YtjofndiofacjjaaDoor
