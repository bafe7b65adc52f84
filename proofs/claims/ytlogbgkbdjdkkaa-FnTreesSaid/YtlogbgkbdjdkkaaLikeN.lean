/-
  The contract of laws.likeInts on equal rows.
-/
import Derived.Test.YtlogbgkbdjdkkaaNumAt
namespace Go.Proofs.Ytlogbgkbdjdkkaa
set_option linter.unusedVariables false
open Go.RowKit

theorem cLikeN_none (A A' : Option Addr) (cap cap' : Nat) (w : World) :
    Calls Try.prog 28 #[.slice A 0 cap, .slice A' 0 cap'] w fun e w' => e = .returned (.bool true) ∧ w = w' := by
  go_enter Try.func28, Try.ntmps28
  go_wp2
  refine wp_loop_rounds 1 ?_
  rw [rounds_succ]
  go_wp2
  go_ret
  exact ⟨rfl, rfl⟩
set_option maxHeartbeats 1000000 in
theorem cLikeN (A A' : Option Addr) (cap cap' n B B' : Nat) (xs : List Int) (w : World) (hbig : n ≤ 1099511627776) (h : NumAt w B A n xs) (h' : NumAt w B' A' n xs) :
    Calls Try.prog 28 #[.slice A n cap, .slice A' n cap'] w fun e w' => e = .returned (.bool true) ∧ Below w.heap.size w w' := by
  rcases Nat.eq_zero_or_pos n with rfl | hp
  · exact (cLikeN_none A A' cap cap' w).mono fun e w' ⟨he, hw⟩ => ⟨he, hw ▸ Below.refl _ _⟩
  have HN := Lib.hid h.1
  obtain ⟨g, o, rfl, _, h1⟩ := h.2 hp
  obtain ⟨g', o', rfl, _, h2⟩ := h'.2 hp
  have H1 := Lib.hid h1
  have H2 := Lib.hid h2
  clear h1 h2 h h'
  go_enter Try.func28, Try.ntmps28
  go_wp2
  go_loopw [5] (fun i wr => ∃ j m : Nat, j ≤ n ∧ i = .int .i64 j ∧ wr = w.drewN m) (fun i _ => n - (intOf i).toNat)
  case atStart => exact ⟨0, 0, Nat.zero_le _, rfl, rfl⟩
  case round =>
    obtain ⟨j, m, hj, rfl, rfl⟩ := hrel
    by_cases hlt : j < n
    · obtain ⟨x, hx⟩ : ∃ x, xs[j]? = some x := ⟨xs[j]'(by have := HN.out; omega), List.getElem?_eq_getElem _⟩
      have c1 : w.cell? ⟨g, o + j, none⟩ = some (.int .i64 x) := H1.out j x hx
      have c2 : w.cell? ⟨g', o' + j, none⟩ = some (.int .i64 x) := H2.out j x hx
      clear hx
      have e1 : (0 : Int) ≤ (j : Int) := Int.natCast_nonneg _
      have e2 : (j : Int) < (n : Int) := by omega
      have hd : (x != x) = false := by simp
      go_wp2
      go_quiet (fail)
      go_wp2
      go_roundw
      case rel => exact ⟨j + 1, _, by omega, by go_num, rfl⟩
      case measure => simp [intOf]; omega
    · go_wp2
      go_ret
      exact ⟨rfl, ⟨rfl, rfl, rfl, Nat.le_refl _, fun _ _ => rfl⟩⟩

theorem likeN (A A' : Option Addr) (n n' c c' : Nat) (xs : List Int) (w : World) (hn : n ≤ 1048576) (h : NumAt w w.heap.size A n xs) (h' : NumAt w w.heap.size A' n' xs) :
    Calls Try.prog 28 #[.slice A n c, .slice A' n' c'] w fun e w' => e = .returned (.bool true) ∧ Below w.heap.size w w' := by
  have e : n' = n := h'.1.trans h.1.symm
  rw [e] at h' ⊢
  exact cLikeN A A' c c' n _ _ xs w (by omega) h h'
end Go.Proofs.Ytlogbgkbdjdkkaa
