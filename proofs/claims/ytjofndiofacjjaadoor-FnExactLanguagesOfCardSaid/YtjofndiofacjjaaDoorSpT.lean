/-
  The laws' helpers on rows of texts that a call hands back: markStringS and heldStringS.
-/
import Derived.Test.YtjofndiofacjjaaDoorSpS
namespace Go.Proofs.YtjofndiofacjjaaDoor
set_option linter.unusedVariables false
open Go.RowKit

def MarkedS2 (lo : Nat) (A : Option Addr) (n c k : Nat) (w : World) (e : Ending) (w' : World) : Prop :=
  e = .returned (.int .i64 ((k + n : Nat) : Int)) ∧ w'.ownsRow lo 9 1 (.slice A n c) n (marksV k n) ∧ w.grownBy w' (Value.slice A n c).ownBlock
theorem uMarkS2 (lo : Nat) (A : Option Addr) (n c k : Nat) (xs : List ByteArray) (w : World) (hk1 : 1 ≤ k) (hk : k ≤ 1073741824) (hn : n ≤ 1048576) (h : w.ownsRow lo 9 1 (.slice A n c) n (strV xs)) :
    Calls Tryd.prog 39 #[.slice A n c, .int .i64 (k : Int)] w (MarkedS2 lo A n c k w) := by
  rcases Nat.eq_zero_or_pos n with rfl | hp
  · refine (cMarkS_none _ _ _ _).mono ?_
    rintro e w' ⟨rfl, rfl⟩
    have hx : xs = [] := List.eq_nil_of_length_eq_zero (by have := h.1; rw [strV_len] at this; omega)
    subst hx
    exact ⟨rfl, h, World.grownBy.refl _ _⟩
  · rcases h.2 with ⟨_, h0⟩ | ⟨g, cap, cur, hv, hg, hb, _⟩
    · omega
    cases hv
    exact cMarkS lo g c n k _ w hk1 (by omega) (Array.getElem?_eq_some_iff.1 hb).1 h
set_option maxHeartbeats 1000000 in
set_option maxRecDepth 100000 in
theorem cHeldS (base g cap n k : Nat) (w : World) (hk : 1 ≤ k) (hkn : k + n ≤ 1099511627776) (hg : g < w.heap.size)
    (hown : w.ownsRow base 9 1 (.slice (some ⟨g, 0, none⟩) n cap) n (marksV k n)) :
    Calls Tryd.prog 40 #[.slice (some ⟨g, 0, none⟩) n cap, .int .i64 k] w fun e w' => e = .returned (.int .i64 ((k + n : Nat) : Int)) ∧ Below w.heap.size w w' := by
  go_enter Tryd.func40, Tryd.ntmps40
  go_wp2
  go_loopw [1, 5] (fun kk i wr => ∃ j : Nat, j ≤ n ∧ i = .int .i64 j ∧ kk = .int .i64 ((k : Int) + j) ∧ Below w.heap.size w wr) (fun _ i _ => n - (intOf i).toNat)
  case atStart => exact ⟨0, Nat.zero_le _, rfl, by simp, Below.refl _ _⟩
  case round =>
    obtain ⟨j, hj, rfl, rfl, hbw⟩ := hrel
    by_cases hlt : j < n
    · have hm := fun W => cMarkText (k + j) W (by omega) (by omega)
      rw [show ((k + j : Nat) : Int) = (k : Int) + (j : Int) from by omega] at hm
      have HM := Lib.hid hm
      clear hm
      have c4 : wr.cell? ⟨g, j, none⟩ = some (.string (markB (k + j))) := (hbw.cell hg).trans ((hown.cellAt j (by omega)).trans (marksV_at _ _ _ hlt))
      have e1 : (0 : Int) ≤ (j : Int) := Int.natCast_nonneg _
      have e2 : (j : Int) < (n : Int) := by omega
      have hgl : g < wr.heap.size := Nat.lt_of_lt_of_le hg hbw.size
      go_wp2
      go_region_held3 (fun w' => w'.cell? ⟨g, j, none⟩ = some (.string (markB (k + j)))) (first | (go_keep; done) | (rw [hb1.cell (by exact hgl)]; assumption)) ((go_at_call 62; refine (HM.out _).mono ?_; rintro e w1 ⟨rfl, hb1⟩))
      all_goals
        go_wp2
        go_roundw
        case rel => exact ⟨j + 1, by omega, by go_num, by go_num, hbw.drew.trans (hb1.mono (by simpa using hbw.size))⟩
        case measure => simp [intOf]; omega
    · obtain rfl : j = n := by omega
      go_wp2
      go_ret
      exact ⟨ret_int (by omega), hbw⟩
theorem cHeldS_none (A : Option Addr) (cap : Nat) (k : Int) (w : World) :
    Calls Tryd.prog 40 #[.slice A 0 cap, .int .i64 k] w fun e w' => e = .returned (.int .i64 k) ∧ w = w' := by
  go_enter Tryd.func40, Tryd.ntmps40
  go_wp2
  refine wp_loop_rounds 1 ?_
  rw [rounds_succ]
  go_wp2
  go_ret
  exact ⟨rfl, rfl⟩
theorem uHeldS2 (lo : Nat) (A : Option Addr) (n c k : Nat) (w : World) (hk1 : 1 ≤ k) (hk : k ≤ 1073741824) (hn : n ≤ 1048576) (h : w.ownsRow lo 9 1 (.slice A n c) n (marksV k n)) :
    Calls Tryd.prog 40 #[.slice A n c, .int .i64 (k : Int)] w fun e w' => e = .returned (.int .i64 ((k + n : Nat) : Int)) ∧ Below w.heap.size w w' := by
  rcases Nat.eq_zero_or_pos n with rfl | hp
  · refine (cHeldS_none _ _ _ _).mono ?_
    rintro e w' ⟨rfl, rfl⟩
    exact ⟨rfl, Below.refl _ _⟩
  · rcases h.2 with ⟨_, h0⟩ | ⟨g, cap, cur, hv, hg, hb, _⟩
    · omega
    cases hv
    exact cHeldS lo g c n k w hk1 (by omega) (Array.getElem?_eq_some_iff.1 hb).1 h
end Go.Proofs.YtjofndiofacjjaaDoor
