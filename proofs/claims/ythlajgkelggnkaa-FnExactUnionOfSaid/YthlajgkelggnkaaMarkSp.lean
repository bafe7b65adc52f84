/-
  The contracts of the laws' markSpanS and heldSpanS, and rows of spans that are carried from world to world.
-/
import Derived.Test.YthlajgkelggnkaaSets
namespace Go.Proofs.Ythlajgkelggnkaa
set_option linter.unusedVariables false
open Go.RowKit

/-- A row of spans of one's own. -/
def Row (w : World) (A : Option Addr) (n c : Nat) (xs : List Sp) : Prop := w.ownsRow 0 30 2 (.slice A n c) n (spanV xs)
theorem Row.of {w : World} {A : Option Addr} {n c b : Nat} {xs : List Sp} (h : w.ownsRow b 30 2 (.slice A n c) n (spanV xs)) : Row w A n c xs := ownsRow_base h (Nat.zero_le _)
theorem Row.len {w : World} {A : Option Addr} {n c : Nat} {xs : List Sp} (h : Row w A n c xs) : xs.length = n := by have := h.1; rw [spanV_len] at this; omega
theorem Row.grown {w w' : World} {A : Option Addr} {n c : Nat} {xs : List Sp} {row : Option Nat} (h : Row w A n c xs) (hg : w.grownBy w' row) (hne : ∀ x, (Value.slice A n c).ownBlock = some x → row ≠ some x) : Row w' A n c xs := by
  refine World.ownsRow.kept h hg ?_
  cases hC : (Value.slice A n c).ownBlock with
  | none => exact .inl rfl
  | some x => exact .inr (fun e => hne x hC e.symm)
theorem Row.below {w w' : World} {A : Option Addr} {n c : Nat} {xs : List Sp} (h : Row w A n c xs) (hb : Below w.heap.size w w') : Row w' A n c xs := h.grown (below_grown_ hb none) (fun _ _ e => by cases e)
theorem Row.span {w : World} {A : Option Addr} {n c : Nat} {xs : List Sp} (h : Row w A n c xs) : SpanAt w w.heap.size A n xs := SpanAt.own h

def marksP (k n : Nat) : List Sp := (List.range n).map fun (i : Nat) => (((k + 2 * i : Nat) : Int), ((k + 2 * i + 1 : Nat) : Int))
theorem marksP_len (k n : Nat) : (marksP k n).length = n := by simp [marksP]
theorem marksP_at (k n j : Nat) (h : j < n) : (marksP k n)[j]? = some (((k + 2 * j : Nat) : Int), ((k + 2 * j + 1 : Nat) : Int)) := by simp [marksP, h]
theorem marksP_succ (k j : Nat) : marksP k (j + 1) = marksP k j ++ [(((k + 2 * j : Nat) : Int), ((k + 2 * j + 1 : Nat) : Int))] := by unfold marksP; rw [List.range_succ, List.map_append]; rfl
def markSp (k j : Nat) (xs : List Sp) : List Sp := marksP k j ++ xs.drop j
theorem markSp_len (k j : Nat) (xs : List Sp) (h : j ≤ xs.length) : (markSp k j xs).length = xs.length := by unfold markSp; rw [List.length_append, marksP_len, List.length_drop]; omega
theorem spanV_set2 (ys : List Sp) (q : Sp) (zs : List Sp) (a b : Int) : ((spanV (ys ++ q :: zs)).set (ys.length * 2) (.int .i64 a)).set (ys.length * 2 + 1) (.int .i64 b) = spanV (ys ++ (a, b) :: zs) := by
  rw [spanV_app, spanV_cons, List.set_append_right _ _ (by rw [spanV_len]; exact Nat.le_refl _), List.set_append_right _ _ (by rw [spanV_len]; omega), spanV_len, Nat.sub_self, show ys.length * 2 + 1 - ys.length * 2 = 1 by omega, spanV_app, spanV_cons]
  rfl
theorem markSp_step (k j : Nat) (xs : List Sp) (h : j < xs.length) : ((spanV (markSp k j xs)).set (j * 2) (.int .i64 ((k + 2 * j : Nat) : Int))).set (j * 2 + 1) (.int .i64 ((k + 2 * j + 1 : Nat) : Int)) = spanV (markSp k (j + 1) xs) := by
  have h1 := spanV_set2 (marksP k j) xs[j] (xs.drop (j + 1)) ((k + 2 * j : Nat) : Int) ((k + 2 * j + 1 : Nat) : Int)
  rw [marksP_len] at h1
  unfold markSp
  rw [List.drop_eq_getElem_cons h, h1, marksP_succ, List.append_assoc]; rfl

theorem cMarkSp_none (A : Option Addr) (c : Nat) (k : Int) (w : World) :
    Calls Try.prog 26 #[.slice A 0 c, .int .i64 k] w fun e w' => e = .returned (.int .i64 k) ∧ w = w' := by
  go_enter Try.func26, Try.ntmps26
  go_wp2
  refine wp_loop_rounds 1 ?_
  rw [rounds_succ]
  go_wp2
  go_ret
  exact ⟨rfl, rfl⟩
theorem cHeldSp_none (A : Option Addr) (c : Nat) (k : Int) (w : World) :
    Calls Try.prog 27 #[.slice A 0 c, .int .i64 k] w fun e w' => e = .returned (.int .i64 k) ∧ w = w' := by
  go_enter Try.func27, Try.ntmps27
  go_wp2
  refine wp_loop_rounds 1 ?_
  rw [rounds_succ]
  go_wp2
  go_ret
  exact ⟨rfl, rfl⟩
def MarkPost (A : Option Addr) (n c k : Nat) (w : World) (e : Ending) (w' : World) : Prop :=
  e = .returned (.int .i64 ((k + 2 * n : Nat) : Int)) ∧ Row w' A n c (marksP k n) ∧ w.grownBy w' (Value.slice A n c).ownBlock

set_option maxHeartbeats 1000000 in
set_option maxRecDepth 100000 in
theorem cMarkSp (A : Option Addr) (n c k : Nat) (xs : List Sp) (w : World) (hkn : k + 2 * n ≤ 1099511627776) (h : Row w A n c xs) :
    Calls Try.prog 26 #[.slice A n c, .int .i64 k] w (MarkPost A n c k w) := by
  rcases Nat.eq_zero_or_pos n with rfl | hp
  · refine (cMarkSp_none A c k w).mono ?_
    rintro e w' ⟨rfl, rfl⟩
    have hx : xs = [] := List.eq_nil_of_length_eq_zero h.len
    subst hx
    exact ⟨rfl, h, World.grownBy.refl _ _⟩
  obtain ⟨g, cc, hv, _, hgl⟩ := World.ownsRow.form h hp
  obtain ⟨rfl, rfl⟩ : A = some ⟨g, 0, none⟩ ∧ c = cc := by injection hv with h1 h2 h3; exact ⟨h1, h3⟩
  have HLEN := Lib.hid h.len
  have H := Lib.hid h
  clear hv h
  go_enter Try.func26, Try.ntmps26
  go_wp2_with fail
  go_loopw [1, 5] (fun kk i wr => ∃ j : Nat, j ≤ n ∧ i = .int .i64 j ∧ kk = .int .i64 ((k : Int) + 2 * j) ∧ Hid (Row wr (some ⟨g, 0, none⟩) n c (markSp k j xs)) ∧ w.grownBy wr (some g)) (fun _ i _ => n - (intOf i).toNat)
  case atStart => exact ⟨0, Nat.zero_le _, rfl, by simp, H, World.grownBy.refl _ _⟩
  case round =>
    obtain ⟨j, hj, rfl, rfl, HR, hgr⟩ := hrel
    by_cases hlt : j < n
    · have hr := HR.out
      have hl1 := hr.1
      obtain ⟨v0, d0⟩ : ∃ v, wr.cell? ⟨g, j * 2, none⟩ = some v := ⟨_, (World.ownsRow.cellAt hr (j * 2) (by omega)).trans (List.getElem?_eq_getElem (by omega))⟩
      obtain ⟨v1, d1⟩ : ∃ v, wr.cell? ⟨g, j * 2 + 1, none⟩ = some v := ⟨_, (World.ownsRow.cellAt hr (j * 2 + 1) (by omega)).trans (List.getElem?_eq_getElem (by omega))⟩
      have f0 := World.ownsRow.frozenAt hr (j * 2)
      have f1 := World.ownsRow.frozenAt hr (j * 2 + 1)
      have hs1 := World.ownsRow.stored hr (j * 2) (.int .i64 ((k + 2 * j : Nat) : Int))
      have hs2 := hs1.1.stored (j * 2 + 1) (.int .i64 ((k + 2 * j + 1 : Nat) : Int))
      have hst := hs2.1
      rw [markSp_step k j xs (by rw [HLEN.out]; exact hlt)] at hst
      have hgr2 := (hgr.trans hs1.2).trans hs2.2
      rw [show ((k + 2 * j : Nat) : Int) = (k : Int) + 2 * (j : Int) by omega, show ((k + 2 * j + 1 : Nat) : Int) = (k : Int) + 2 * (j : Int) + 1 by omega] at hst hgr2
      have HST := Lib.hid hst
      have u1 : (0 : Int) ≤ (j : Int) := Int.natCast_nonneg _
      have u2 : (j : Int) < (n : Int) := by omega
      have u3 : (0 : Int) ≤ (k : Int) := Int.natCast_nonneg _
      have u4 : (k : Int) + 2 * (j : Int) ≤ 1099511627776 := by omega
      clear hr hl1 hs1 hs2 hst hgr
      go_wp2_with fail
      go_roundw
      case rel => exact ⟨j + 1, by omega, by go_num, by go_num, Lib.hid HST.out, hgr2⟩
      case measure => simp [intOf]; omega
    · obtain rfl : j = n := by omega
      have hr := HR.out
      have he : markSp k j xs = marksP k j := by unfold markSp; rw [List.drop_of_length_le (by rw [HLEN.out]; exact Nat.le_refl _), List.append_nil]
      rw [he] at hr
      have HR2 := Lib.hid hr
      clear he hr
      go_wp2_with fail
      go_ret
      exact ⟨ret_int (by omega), HR2.out, hgr⟩

set_option maxHeartbeats 1000000 in
set_option maxRecDepth 100000 in
theorem cHeldSp (A : Option Addr) (n c k : Nat) (w : World) (hkn : k + 2 * n ≤ 1099511627776) (h : Row w A n c (marksP k n)) :
    Calls Try.prog 27 #[.slice A n c, .int .i64 k] w fun e w' => e = .returned (.int .i64 ((k + 2 * n : Nat) : Int)) ∧ w = w' := by
  rcases Nat.eq_zero_or_pos n with rfl | hp
  · exact cHeldSp_none A c k w
  obtain ⟨g, cc, hv, _, hgl⟩ := World.ownsRow.form h hp
  obtain ⟨rfl, rfl⟩ : A = some ⟨g, 0, none⟩ ∧ c = cc := by injection hv with h1 h2 h3; exact ⟨h1, h3⟩
  have H := Lib.hid h
  clear hv h
  go_enter Try.func27, Try.ntmps27
  go_wp2_with fail
  go_loop [1, 5] (fun kk i => ∃ j : Nat, j ≤ n ∧ i = .int .i64 j ∧ kk = .int .i64 ((k : Int) + 2 * j)) (fun _ i => n - (intOf i).toNat)
  case atStart => exact ⟨0, Nat.zero_le _, rfl, by simp⟩
  case round =>
    obtain ⟨j, hj, rfl, rfl⟩ := hrel
    by_cases hlt : j < n
    · have hm := spanV_at _ _ _ (marksP_at k n j hlt)
      have d0 : w.cell? ⟨g, j * 2, none⟩ = some (.int .i64 ((k : Int) + 2 * (j : Int))) := (World.ownsRow.cellAt H.out (j * 2) (by omega)).trans (by rw [hm.1]; simp)
      have d1 : w.cell? ⟨g, j * 2 + 1, none⟩ = some (.int .i64 ((k : Int) + 2 * (j : Int) + 1)) := (World.ownsRow.cellAt H.out (j * 2 + 1) (by omega)).trans (by rw [hm.2]; simp)
      have u1 : (0 : Int) ≤ (j : Int) := Int.natCast_nonneg _
      have u2 : (j : Int) < (n : Int) := by omega
      have u3 : (0 : Int) ≤ (k : Int) := Int.natCast_nonneg _
      have u4 : (k : Int) + 2 * (j : Int) ≤ 1099511627776 := by omega
      have z1 : ((k : Int) + 2 * (j : Int) != (k : Int) + 2 * (j : Int)) = false := by simp
      have z2 : ((k : Int) + 2 * (j : Int) + 1 != (k : Int) + 2 * (j : Int) + 1) = false := by simp
      clear hm
      go_wp2_with fail
      go_round
      case rel => exact ⟨j + 1, by omega, by go_num, by go_num⟩
      case measure => simp [intOf]; omega
    · obtain rfl : j = n := by omega
      go_wp2_with fail
      go_ret
      exact ⟨ret_int (by omega), rfl⟩
end Go.Proofs.Ythlajgkelggnkaa
