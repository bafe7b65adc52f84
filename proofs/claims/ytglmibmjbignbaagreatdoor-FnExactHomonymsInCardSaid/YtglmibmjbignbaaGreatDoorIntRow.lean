/-
  Rows of numbers of one's own, and the contracts of the laws' eqInt64S, markInt64S and heldInt64S on them.
-/
import Derived.Test.YtglmibmjbignbaaGreatDoorMz3
import Derived.BigQuiet
import Derived.Handy
import Derived.Deep.QuietTactic
import Derived.Laws.OwnMore
namespace Go.Proofs.YtglmibmjbignbaaGreatDoor
set_option linter.unusedVariables false
open Go.RowKit

theorem info_i64 : (Tryz.prog.info? 2).map (fun i => (i.zero, i.size, i.bytes)) = some (some (.int .i64 0), 1, 8) := by kernel_rfl
def intV (xs : List Int) : List Value := xs.map (Value.int .i64)
theorem intV_len (xs : List Int) : (intV xs).length = xs.length := by simp [intV]
theorem intV_at (xs : List Int) (j : Nat) (x : Int) (h : xs[j]? = some x) : (intV xs)[j]? = some (.int .i64 x) := by simp [intV, h]
theorem intV_snoc (xs : List Int) (x : Int) : intV xs ++ [.int .i64 x] = intV (xs ++ [x]) := by simp [intV]
theorem rowBase {w : World} {b b' : Nat} {t : TypeId} {s n : Nat} {v : Value} {xs : List Value} (h : w.ownsRow b t s v n xs) (hb : b' ≤ b) : w.ownsRow b' t s v n xs := by
  refine ⟨h.1, ?_⟩
  rcases h.2 with h2 | ⟨g, cap, cur, h1, h2, h3⟩
  · exact .inl h2
  · exact .inr ⟨g, cap, cur, h1, Nat.le_trans hb h2, h3⟩
theorem bgr {w w' : World} (h : Below w.heap.size w w') (row : Option Nat) : w.grownBy w' row := ⟨h.os, h.tape, h.output, h.size, fun k hk _ => h.block k hk⟩
/-- A row of numbers of one's own. -/
def RowI (w : World) (A : Option Addr) (n c : Nat) (xs : List Int) : Prop := w.ownsRow 0 2 1 (.slice A n c) n (intV xs)
theorem RowI.of {w : World} {A : Option Addr} {n c b : Nat} {xs : List Int} (h : w.ownsRow b 2 1 (.slice A n c) n (intV xs)) : RowI w A n c xs := rowBase h (Nat.zero_le _)
theorem RowI.nil (w : World) : RowI w none 0 0 [] := World.ownsRow_nil w 0 _ 1
theorem RowI.len {w : World} {A : Option Addr} {n c : Nat} {xs : List Int} (h : RowI w A n c xs) : xs.length = n := by have := h.1; rw [intV_len] at this; omega
theorem RowI.grown {w w' : World} {A : Option Addr} {n c : Nat} {xs : List Int} {row : Option Nat} (h : RowI w A n c xs) (hg : w.grownBy w' row) (hne : ∀ x, (Value.slice A n c).ownBlock = some x → row ≠ some x) : RowI w' A n c xs := by
  refine World.ownsRow.kept h hg ?_
  cases hC : (Value.slice A n c).ownBlock with
  | none => exact .inl rfl
  | some x => exact .inr (fun e => hne x hC e.symm)
theorem RowI.below {w w' : World} {A : Option Addr} {n c : Nat} {xs : List Int} (h : RowI w A n c xs) (hb : Below w.heap.size w w') : RowI w' A n c xs := h.grown (bgr hb none) (fun _ _ e => by cases e)
theorem RowI.cells {w : World} {A : Option Addr} {n c : Nat} {xs : List Int} (h : RowI w A n c xs) (hp : 0 < n) : ∃ g, A = some ⟨g, 0, none⟩ ∧ g < w.heap.size ∧ ∀ (j : Nat) x, xs[j]? = some x → w.cell? ⟨g, j, none⟩ = some (.int .i64 x) := by
  obtain ⟨g, cc, hv, _, hgl⟩ := World.ownsRow.form h hp
  obtain ⟨rfl, rfl⟩ : A = some ⟨g, 0, none⟩ ∧ c = cc := by injection hv with h1 h2 h3; exact ⟨h1, h3⟩
  refine ⟨g, rfl, hgl, fun j x hx => ?_⟩
  have hj := (List.getElem?_eq_some_iff.1 hx).1
  have hl := h.len
  exact (World.ownsRow.cellAt h j (by omega)).trans (intV_at _ _ _ hx)

def marksI (k n : Nat) : List Int := (List.range n).map fun (i : Nat) => ((k + i : Nat) : Int)
theorem marksI_len (k n : Nat) : (marksI k n).length = n := by simp [marksI]
theorem marksI_at (k n j : Nat) (h : j < n) : (marksI k n)[j]? = some ((k + j : Nat) : Int) := by simp [marksI, h]
theorem marksI_succ (k j : Nat) : marksI k (j + 1) = marksI k j ++ [((k + j : Nat) : Int)] := by unfold marksI; rw [List.range_succ, List.map_append]; rfl
def markI (k j : Nat) (xs : List Int) : List Int := marksI k j ++ xs.drop j
theorem markI_step (k j : Nat) (xs : List Int) (h : j < xs.length) : (intV (markI k j xs)).set j (.int .i64 ((k + j : Nat) : Int)) = intV (markI k (j + 1) xs) := by
  unfold markI intV
  rw [List.map_append, List.set_append_right _ _ (by rw [List.length_map, marksI_len]; exact Nat.le_refl _), List.length_map, marksI_len, Nat.sub_self, List.drop_eq_getElem_cons h, List.map_cons, List.set_cons_zero, marksI_succ, List.append_assoc, List.map_append]
  rfl

theorem cMarkI_none (A : Option Addr) (c : Nat) (k : Int) (w : World) :
    Calls Tryz.prog 49 #[.slice A 0 c, .int .i64 k] w fun e w' => e = .returned (.int .i64 k) ∧ w = w' := by
  go_enter Tryz.func49, Tryz.ntmps49
  go_wp2
  refine wp_loop_rounds 1 ?_
  rw [rounds_succ]
  go_wp2
  go_ret
  exact ⟨rfl, rfl⟩
def MarkIPost (A : Option Addr) (n c k : Nat) (w : World) (e : Ending) (w' : World) : Prop :=
  e = .returned (.int .i64 ((k + n : Nat) : Int)) ∧ RowI w' A n c (marksI k n) ∧ w.grownBy w' (Value.slice A n c).ownBlock

set_option maxHeartbeats 1000000 in
set_option maxRecDepth 100000 in
theorem cMarkI (A : Option Addr) (n c k : Nat) (xs : List Int) (w : World) (hkn : k + n ≤ 1099511627776) (h : RowI w A n c xs) :
    Calls Tryz.prog 49 #[.slice A n c, .int .i64 k] w (MarkIPost A n c k w) := by
  rcases Nat.eq_zero_or_pos n with rfl | hp
  · refine (cMarkI_none A c k w).mono ?_
    rintro e w' ⟨rfl, rfl⟩
    have hx : xs = [] := List.eq_nil_of_length_eq_zero h.len
    subst hx
    exact ⟨rfl, h, World.grownBy.refl _ _⟩
  obtain ⟨g, cc, hv, _, hgl⟩ := World.ownsRow.form h hp
  obtain ⟨rfl, rfl⟩ : A = some ⟨g, 0, none⟩ ∧ c = cc := by injection hv with h1 h2 h3; exact ⟨h1, h3⟩
  have HLEN := Lib.hid h.len
  have H := Lib.hid h
  clear hv h
  go_enter Tryz.func49, Tryz.ntmps49
  go_wp2_with fail
  go_loopw [1, 5] (fun kk i wr => ∃ j : Nat, j ≤ n ∧ i = .int .i64 j ∧ kk = .int .i64 ((k : Int) + j) ∧ Hid (RowI wr (some ⟨g, 0, none⟩) n c (markI k j xs)) ∧ w.grownBy wr (some g)) (fun _ i _ => n - (intOf i).toNat)
  case atStart => exact ⟨0, Nat.zero_le _, rfl, by simp, H, World.grownBy.refl _ _⟩
  case round =>
    obtain ⟨j, hj, rfl, rfl, HR, hgr⟩ := hrel
    by_cases hlt : j < n
    · have hr := HR.out
      have hl1 := hr.1
      obtain ⟨v0, d0⟩ : ∃ v, wr.cell? ⟨g, j, none⟩ = some v := ⟨_, (World.ownsRow.cellAt hr j (by omega)).trans (List.getElem?_eq_getElem (by omega))⟩
      have f0 := World.ownsRow.frozenAt hr j
      have hs1 := World.ownsRow.stored hr j (.int .i64 ((k + j : Nat) : Int))
      have hst := hs1.1
      rw [markI_step k j xs (by rw [HLEN.out]; exact hlt)] at hst
      have hgr2 := hgr.trans hs1.2
      rw [show ((k + j : Nat) : Int) = (k : Int) + (j : Int) by omega] at hst hgr2
      have HST := Lib.hid hst
      have u1 : (0 : Int) ≤ (j : Int) := Int.natCast_nonneg _
      have u2 : (j : Int) < (n : Int) := by omega
      have u3 : (0 : Int) ≤ (k : Int) := Int.natCast_nonneg _
      have u4 : (k : Int) + (j : Int) ≤ 1099511627776 := by omega
      clear hr hl1 hs1 hst hgr
      go_wp2_with fail
      go_roundw
      case rel => exact ⟨j + 1, by omega, by go_num, by go_num, Lib.hid HST.out, hgr2⟩
      case measure => simp [intOf]; omega
    · obtain rfl : j = n := by omega
      have hr := HR.out
      have he : markI k j xs = marksI k j := by unfold markI; rw [List.drop_of_length_le (by rw [HLEN.out]; exact Nat.le_refl _), List.append_nil]
      rw [he] at hr
      have HR2 := Lib.hid hr
      clear he hr
      go_wp2_with fail
      go_ret
      exact ⟨ret_int (by omega), HR2.out, hgr⟩

theorem cEqI_none (A A' : Option Addr) (cap cap' : Nat) (w : World) :
    Calls Tryz.prog 48 #[.slice A 0 cap, .slice A' 0 cap'] w fun e w' => e = .returned (.bool true) ∧ w = w' := by
  go_enter Tryz.func48, Tryz.ntmps48
  go_wp2
  refine wp_loop_rounds 1 ?_
  rw [rounds_succ]
  go_wp2
  go_ret
  exact ⟨rfl, rfl⟩
set_option maxHeartbeats 1000000 in
theorem cEqR (A A' : Option Addr) (cap cap' n : Nat) (xs : List Int) (w : World) (hbig : n ≤ 1099511627776) (h : RowI w A n cap xs) (h' : RowI w A' n cap' xs) :
    Calls Tryz.prog 48 #[.slice A n cap, .slice A' n cap'] w fun e w' => e = .returned (.bool true) ∧ Below w.heap.size w w' := by
  rcases Nat.eq_zero_or_pos n with rfl | hp
  · exact (cEqI_none A A' cap cap' w).mono fun e w' ⟨he, hw⟩ => ⟨he, hw ▸ Below.refl _ _⟩
  have HN := Lib.hid h.len
  obtain ⟨g, rfl, _, h1⟩ := h.cells hp
  obtain ⟨g', rfl, _, h2⟩ := h'.cells hp
  have H1 := Lib.hid h1
  have H2 := Lib.hid h2
  clear h1 h2 h h'
  go_enter Tryz.func48, Tryz.ntmps48
  go_wp2
  go_loopw [5] (fun i wr => ∃ j m : Nat, j ≤ n ∧ i = .int .i64 j ∧ wr = w.drewN m) (fun i _ => n - (intOf i).toNat)
  case atStart => exact ⟨0, 0, Nat.zero_le _, rfl, rfl⟩
  case round =>
    obtain ⟨j, m, hj, rfl, rfl⟩ := hrel
    by_cases hlt : j < n
    · obtain ⟨x, hx⟩ : ∃ x, xs[j]? = some x := ⟨xs[j]'(by have := HN.out; omega), List.getElem?_eq_getElem _⟩
      have c1 : w.cell? ⟨g, j, none⟩ = some (.int .i64 x) := H1.out j x hx
      have c2 : w.cell? ⟨g', j, none⟩ = some (.int .i64 x) := H2.out j x hx
      clear hx
      have e1 : (0 : Int) ≤ (j : Int) := Int.natCast_nonneg _
      have e2 : (j : Int) < (n : Int) := by omega
      have hd : (x != x) = false := by simp
      go_wp2
      go_quiet (fail)
      go_wp2
      go_roundw
      case rel => exact ⟨j + 1, _, by omega, by go_num, rfl⟩
      case measure => simp [intOf]; omega
    · go_wp2
      go_ret
      exact ⟨rfl, ⟨rfl, rfl, rfl, Nat.le_refl _, fun _ _ => rfl⟩⟩
end Go.Proofs.YtglmibmjbignbaaGreatDoor
