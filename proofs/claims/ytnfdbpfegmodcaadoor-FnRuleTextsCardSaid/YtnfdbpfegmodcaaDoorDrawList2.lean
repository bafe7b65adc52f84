/-
  The contracts of spec.l01List on a row, spec.DrawReadList, and the laws' likeInts.
-/
import Derived.Test.YtnfdbpfegmodcaaDoorDrawList
import Derived.Test.YtnfdbpfegmodcaaDoorReadListS
namespace Go.Proofs.YtnfdbpfegmodcaaDoor
set_option linter.unusedVariables false
open Go.RowKit

def listT (xs : List Int) : ByteArray := if xs = [] then dash else comB (nums xs)
theorem listT_small (xs : List Int) (hl : xs.length ≤ 6) (hb : ∀ x ∈ xs, -100 ≤ x ∧ x ≤ 100) : (listT xs).size ≤ 1000 := by
  unfold listT
  split
  · show dash.size ≤ 1000
    decide
  · have h1 := com_len2 102 ((nums xs).map (·.data.toList)) (by
      intro y hy
      rw [List.mem_map] at hy
      obtain ⟨z, hz, rfl⟩ := hy
      unfold nums at hz
      rw [List.mem_map] at hz
      obtain ⟨v, hv, rfl⟩ := hz
      have h2 := numB_len v
      have h3 := size_list (numB v)
      have h4 := hb v hv
      omega)
    have h2 : ((nums xs).map (·.data.toList)).length = xs.length := by simp [nums]
    rw [h2, ← comB_data, size_list] at h1
    have h3 : xs.length * (102 + 1) ≤ 6 * 103 := Nat.mul_le_mul hl (Nat.le_refl _)
    omega

theorem cLikeI_none (A A' : Option Addr) (cap cap' : Nat) (w : World) :
    Calls Tryd.prog 24 #[.slice A 0 cap, .slice A' 0 cap'] w fun e w' => e = .returned (.bool true) ∧ w = w' := by
  go_enter Tryd.func24, Tryd.ntmps24
  go_wp2
  refine wp_loop_rounds 1 ?_
  rw [rounds_succ]
  go_wp2
  go_ret
  exact ⟨rfl, rfl⟩
set_option maxHeartbeats 1000000 in
theorem cLikeI (A A' : Option Addr) (cap cap' n : Nat) (xs : List Int) (w : World) (hbig : n ≤ 1099511627776) (h : RowI w A n cap xs) (h' : RowI w A' n cap' xs) :
    Calls Tryd.prog 24 #[.slice A n cap, .slice A' n cap'] w fun e w' => e = .returned (.bool true) ∧ Below w.heap.size w w' := by
  rcases Nat.eq_zero_or_pos n with rfl | hp
  · exact (cLikeI_none A A' cap cap' w).mono fun e w' ⟨he, hw⟩ => ⟨he, hw ▸ Below.refl _ _⟩
  have HN := Lib.hid h.len
  obtain ⟨g, rfl, _, h1⟩ := h.cells hp
  obtain ⟨g', rfl, _, h2⟩ := h'.cells hp
  have H1 := Lib.hid h1
  have H2 := Lib.hid h2
  clear h1 h2 h h'
  go_enter Tryd.func24, Tryd.ntmps24
  go_wp2
  go_loopw [5] (fun i wr => ∃ j m : Nat, j ≤ n ∧ i = .int .i64 j ∧ wr = w.drewN m) (fun i _ => n - (intOf i).toNat)
  case atStart => exact ⟨0, 0, Nat.zero_le _, rfl, rfl⟩
  case round =>
    obtain ⟨j, m, hj, rfl, rfl⟩ := hrel
    by_cases hlt : j < n
    · obtain ⟨x, hx⟩ : ∃ x, xs[j]? = some x := ⟨xs[j]'(by have := HN.out; omega), List.getElem?_eq_getElem _⟩
      have c1 : w.cell? ⟨g, j, none⟩ = some (.int .i64 x) := H1.out j x hx
      have c2 : w.cell? ⟨g', j, none⟩ = some (.int .i64 x) := H2.out j x hx
      clear hx
      have e1 : (0 : Int) ≤ (j : Int) := Int.natCast_nonneg _
      have e2 : (j : Int) < (n : Int) := by omega
      have hd : (x != x) = false := by simp
      go_wp2
      go_quiet (fail)
      go_wp2
      go_roundw
      case rel => exact ⟨j + 1, _, by omega, by go_num, rfl⟩
      case measure => simp [intOf]; omega
    · go_wp2
      go_ret
      exact ⟨rfl, ⟨rfl, rfl, rfl, Nat.le_refl _, fun _ _ => rfl⟩⟩
end Go.Proofs.YtnfdbpfegmodcaaDoor
