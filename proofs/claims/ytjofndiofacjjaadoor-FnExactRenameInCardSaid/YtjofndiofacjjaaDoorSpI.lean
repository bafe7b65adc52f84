/-
  The laws' helpers on slices of numbers: toInt64S, eqInt64S, markInt64S, heldInt64S on rows of one's own.
-/
import Derived.Test.YtjofndiofacjjaaDoorSp
import Derived.Test.YtjofndiofacjjaaDoorNumAt
namespace Go.Proofs.YtjofndiofacjjaaDoor
set_option linter.unusedVariables false
open Go.RowKit

theorem Sp.num {w : World} {A : Option Addr} {n : Nat} {xs : List Int} (h : NumAt w w.heap.size A n xs) : Sp 0 w.heap.size (fun W => NumAt W W.heap.size A n xs) w :=
  ⟨Nat.le_refl _, fun W hW => (h.below hW.below (Nat.le_refl _)).more hW.size⟩
theorem own_num {w : World} {lo n c : Nat} {A : Option Addr} {xs : List Int} (h : w.ownsRow lo 2 1 (.slice A n c) n (intV xs)) : NumAt w w.heap.size A n xs := by
  have hl : xs.length = n := by have := h.1; rw [intV_len] at this; omega
  refine ⟨hl.symm, fun hp => ?_⟩
  rcases h.2 with ⟨_, h0⟩ | ⟨g, cap, cur, hv, hg, hb, _⟩
  · omega
  · cases hv
    refine ⟨g, 0, rfl, (Array.getElem?_eq_some_iff.1 hb).1, fun j x hx => ?_⟩
    rw [Nat.zero_add]
    exact (h.cellAt j (by have := (List.getElem?_eq_some_iff.1 hx).1; omega)).trans (intV_at _ _ _ hx)
/-- A copy of one's own. -/
def CopyI (n : Nat) (xs : List Int) (w : World) (e : Ending) (w' : World) : Prop := ∃ A, e = .returned (.slice A n n) ∧ w'.ownsRow w.heap.size 2 1 (.slice A n n) n (intV xs) ∧ Below w.heap.size w w'
theorem uEqI (A A' : Option Addr) (c c' n : Nat) (xs : List Int) (w : World) (hbig : n ≤ 1048576) (h1 : NumAt w w.heap.size A n xs) (h2 : NumAt w w.heap.size A' n xs) :
    Calls Tryd.prog 23 #[.slice A n c, .slice A' n c'] w fun e w' => e = .returned (.bool true) ∧ Below w.heap.size w w' :=
  (tEqI A A' c c' n _ _ xs w hbig h1 h2).mono fun e w' ⟨he, m, hm⟩ => ⟨he, hm ▸ below_drN_r (Below.refl _ w) m⟩
/-- Marks in a row of one's own. -/
def MarkedI (lo : Nat) (A : Option Addr) (n c k : Nat) (w : World) (e : Ending) (w' : World) : Prop :=
  e = .returned (.int .i64 ((k + n : Nat) : Int)) ∧ w'.ownsRow lo 2 1 (.slice A n c) n (intV (marksI k n)) ∧ w.grownBy w' (Value.slice A n c).ownBlock
theorem own_lift {w : World} {lo s n : Nat} {t : TypeId} {v : Value} {xs ys : List Value} (h : w.ownsRow 0 t s v n xs) (hlo : ∀ k, v.ownBlock = some k → lo ≤ k) : w.ownsRow lo t s v n xs :=
  ⟨h.1, by
    rcases h.2 with h2 | ⟨g, cap, cur, h1, h2, h3⟩
    · exact .inl h2
    · exact .inr ⟨g, cap, cur, h1, hlo g (by rw [h1]; rfl), h3⟩⟩
theorem uMarkI (lo : Nat) (A : Option Addr) (n c k : Nat) (xs : List Int) (w : World) (hk : k ≤ 1073741824) (hn : n ≤ 1048576) (h : w.ownsRow lo 2 1 (.slice A n c) n (intV xs)) :
    Calls Tryd.prog 25 #[.slice A n c, .int .i64 (k : Int)] w (MarkedI lo A n c k w) :=
  (cMarkI A n c k xs w (by omega) (RowI.of h)).mono fun e w' ⟨h1, h2, h3⟩ => ⟨h1, own_lift (ys := []) h2 (fun k hk => (h.lt k hk).1), h3⟩
theorem uHeldI (lo : Nat) (A : Option Addr) (n c k : Nat) (w : World) (hk : k ≤ 1073741824) (hn : n ≤ 1048576) (h : w.ownsRow lo 2 1 (.slice A n c) n (intV (marksI k n))) :
    Calls Tryd.prog 26 #[.slice A n c, .int .i64 (k : Int)] w fun e w' => e = .returned (.int .i64 ((k + n : Nat) : Int)) ∧ w = w' :=
  cHeldI A n c k w (by omega) (RowI.of h)
end Go.Proofs.YtjofndiofacjjaaDoor
