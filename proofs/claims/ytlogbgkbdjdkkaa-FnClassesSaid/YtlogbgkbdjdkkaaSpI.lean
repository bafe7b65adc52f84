/-
  The laws' helpers on slices of numbers: toInt64S, eqInt64S, markInt64S, heldInt64S on rows of one's own.
-/
import Derived.Test.YtlogbgkbdjdkkaaSp
import Derived.Test.YtlogbgkbdjdkkaaNumAt
namespace Go.Proofs.Ytlogbgkbdjdkkaa
set_option linter.unusedVariables false
open Go.RowKit

theorem Sp.num {w : World} {A : Option Addr} {n : Nat} {xs : List Int} (h : NumAt w w.heap.size A n xs) : Sp 0 w.heap.size (fun W => NumAt W W.heap.size A n xs) w :=
  ⟨Nat.le_refl _, fun W hW => (h.below hW.below (Nat.le_refl _)).more hW.size⟩
theorem own_num {w : World} {lo n c : Nat} {A : Option Addr} {xs : List Int} (h : w.ownsRow lo 2 1 (.slice A n c) n (intV xs)) : NumAt w w.heap.size A n xs := by
  have hl : xs.length = n := by have := h.1; rw [intV_len] at this; omega
  refine ⟨hl.symm, fun hp => ?_⟩
  rcases h.2 with ⟨_, h0⟩ | ⟨g, cap, cur, hv, hg, hb, _⟩
  · omega
  · cases hv
    refine ⟨g, 0, rfl, (Array.getElem?_eq_some_iff.1 hb).1, fun j x hx => ?_⟩
    rw [Nat.zero_add]
    exact (h.cellAt j (by have := (List.getElem?_eq_some_iff.1 hx).1; omega)).trans (intV_at _ _ _ hx)
set_option maxHeartbeats 1000000 in
theorem cToI_none3 (A : Option Addr) (cap : Nat) (w : World) :
    Calls Try.prog 41 #[.slice A 0 cap] w fun e w' => e = .returned (.slice (some ⟨w.heap.size, 0, none⟩) 0 0) ∧ w'.ownsRow w.heap.size 2 1 (.slice (some ⟨w.heap.size, 0, none⟩) 0 0) 0 (intV []) ∧ Below w.heap.size w w' := by
  obtain ⟨i0, hi0, hz0, hz1, hz2⟩ := info_parts info_i64
  go_enter Try.func41, Try.ntmps41
  go_wp2_with (at_make; refine wpList_make_full _ rfl _ _ 24 rfl w.heap.size 2 i0 _ 1 Try.underlying24 hi0 hz0 hz1 _ _ _ _ 0 rfl rfl (by simp) (by simp) ?b2 ?b3 (Nat.le_refl _) ?_)
  case b2 => rw [hz2]; omega
  case b3 => unfold maxLen; omega
  intro w0 hown0 hgrow0
  rw [copyI_zero []] at hown0
  have hb0 : Below w.heap.size w w0 := (Below.refl _ _).grown hgrow0 (Nat.le_refl _) (fun k h => by cases h)
  have HO := Lib.hid hown0
  clear hown0 hgrow0
  go_wp2
  refine wp_loop_rounds 1 ?_
  rw [rounds_succ]
  go_wp2
  go_ret
  exact ⟨rfl, HO.out, hb0⟩
/-- A copy of one's own. -/
def CopyI (n : Nat) (xs : List Int) (w : World) (e : Ending) (w' : World) : Prop := ∃ A, e = .returned (.slice A n n) ∧ w'.ownsRow w.heap.size 2 1 (.slice A n n) n (intV xs) ∧ Below w.heap.size w w'
theorem uToI (A : Option Addr) (n cap : Nat) (xs : List Int) (w : World) (hbig : n ≤ 1048576) (h : NumAt w w.heap.size A n xs) :
    Calls Try.prog 41 #[.slice A n cap] w (CopyI n xs w) := by
  rcases Nat.eq_zero_or_pos n with rfl | hp
  · obtain rfl : xs = [] := List.eq_nil_of_length_eq_zero h.1.symm
    exact (cToI_none3 A cap w).mono fun e w' ⟨h1, h2, h3⟩ => ⟨_, h1, h2, h3⟩
  · obtain ⟨b, o, rfl, hb, hc⟩ := h.2 hp
    exact (cToI b o n cap xs w h.1 hbig hb hc).mono fun e w' ⟨h1, h2, h3⟩ => ⟨_, h1, h2, h3⟩
theorem uEqI (A A' : Option Addr) (c c' n : Nat) (xs : List Int) (w : World) (hbig : n ≤ 1048576) (h1 : NumAt w w.heap.size A n xs) (h2 : NumAt w w.heap.size A' n xs) :
    Calls Try.prog 42 #[.slice A n c, .slice A' n c'] w fun e w' => e = .returned (.bool true) ∧ Below w.heap.size w w' :=
  (tEqI A A' c c' n _ _ xs w hbig h1 h2).mono fun e w' ⟨he, m, hm⟩ => ⟨he, hm ▸ below_drN_r (Below.refl _ w) m⟩
/-- Marks in a row of one's own. -/
def MarkedI (lo : Nat) (A : Option Addr) (n c k : Nat) (w : World) (e : Ending) (w' : World) : Prop :=
  e = .returned (.int .i64 ((k + n : Nat) : Int)) ∧ w'.ownsRow lo 2 1 (.slice A n c) n (intV (marksI k n)) ∧ w.grownBy w' (Value.slice A n c).ownBlock
theorem own_lift {w : World} {lo s n : Nat} {t : TypeId} {v : Value} {xs ys : List Value} (h : w.ownsRow 0 t s v n xs) (hlo : ∀ k, v.ownBlock = some k → lo ≤ k) : w.ownsRow lo t s v n xs :=
  ⟨h.1, by
    rcases h.2 with h2 | ⟨g, cap, cur, h1, h2, h3⟩
    · exact .inl h2
    · exact .inr ⟨g, cap, cur, h1, hlo g (by rw [h1]; rfl), h3⟩⟩
theorem uMarkI (lo : Nat) (A : Option Addr) (n c k : Nat) (xs : List Int) (w : World) (hk : k ≤ 1073741824) (hn : n ≤ 1048576) (h : w.ownsRow lo 2 1 (.slice A n c) n (intV xs)) :
    Calls Try.prog 43 #[.slice A n c, .int .i64 (k : Int)] w (MarkedI lo A n c k w) :=
  (cMarkI A n c k xs w (by omega) (RowI.of h)).mono fun e w' ⟨h1, h2, h3⟩ => ⟨h1, own_lift (ys := []) h2 (fun k hk => (h.lt k hk).1), h3⟩
theorem uHeldI (lo : Nat) (A : Option Addr) (n c k : Nat) (w : World) (hk : k ≤ 1073741824) (hn : n ≤ 1048576) (h : w.ownsRow lo 2 1 (.slice A n c) n (intV (marksI k n))) :
    Calls Try.prog 44 #[.slice A n c, .int .i64 (k : Int)] w fun e w' => e = .returned (.int .i64 ((k + n : Nat) : Int)) ∧ w = w' :=
  cHeldI A n c k w (by omega) (RowI.of h)
end Go.Proofs.Ytlogbgkbdjdkkaa
