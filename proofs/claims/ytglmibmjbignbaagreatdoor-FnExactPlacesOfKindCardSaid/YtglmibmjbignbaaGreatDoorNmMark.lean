/-
  The laws' helpers markNameS and heldNameS on rows of names of one's own.
-/
import Derived.Test.YtglmibmjbignbaaGreatDoorMz9
namespace Go.Proofs.YtglmibmjbignbaaGreatDoor
set_option linter.unusedVariables false
open Go.RowKit

def markN1 (k : Nat) : Nm := ⟨markB k, markB (k + 1), (k : Int) + 1 + 1, (k : Int) + 1 + 1 + 1, (k : Int) + 1 + 1 + 1 + 1⟩
def marksN (k n : Nat) : List Nm := (List.range n).map fun i => markN1 (k + 5 * i)
theorem marksN_len (k n : Nat) : (marksN k n).length = n := by simp [marksN]
theorem marksN_at (k n j : Nat) (h : j < n) : (marksN k n)[j]? = some (markN1 (k + 5 * j)) := by simp [marksN, h]
theorem marksN_succ (k j : Nat) : marksN k (j + 1) = marksN k j ++ [markN1 (k + 5 * j)] := by unfold marksN; rw [List.range_succ, List.map_append]; rfl
def markN (k j : Nat) (xs : List Nm) : List Nm := marksN k j ++ xs.drop j
theorem markN_len (k j : Nat) (xs : List Nm) (h : j ≤ xs.length) : (markN k j xs).length = xs.length := by unfold markN; rw [List.length_append, marksN_len, List.length_drop]; omega
theorem markN_step (k j : Nat) (xs : List Nm) (h : j < xs.length) : (markN k j xs).set j (markN1 (k + 5 * j)) = markN k (j + 1) xs := by
  unfold markN
  rw [List.set_append_right _ _ (by rw [marksN_len]; exact Nat.le_refl _), marksN_len, Nat.sub_self, List.drop_eq_getElem_cons h, List.set_cons_zero, marksN_succ, List.append_assoc]
  rfl
theorem bgrown9 {w w' : World} (h : Below w.heap.size w w') (row : Option Nat) : w.grownBy w' row := ⟨h.os, h.tape, h.output, h.size, fun k hk _ => h.block k hk⟩
theorem cMarkN_none (A : Option Addr) (c : Nat) (k : Int) (w : World) :
    Calls Tryz.prog 112 #[.slice A 0 c, .int .i64 k] w fun e w' => e = .returned (.int .i64 k) ∧ w = w' := by
  go_enter Tryz.func112, Tryz.ntmps112
  go_wp2
  refine wp_loop_rounds 1 ?_
  rw [rounds_succ]
  go_wp2
  go_ret
  exact ⟨rfl, rfl⟩
def MarkedN (lo : Nat) (A : Option Addr) (n c k : Nat) (w : World) (e : Ending) (w' : World) : Prop :=
  e = .returned (.int .i64 ((k + 5 * n : Nat) : Int)) ∧ w'.ownsRow lo 100 5 (.slice A n c) n (nmV (marksN k n)) ∧ w.grownBy w' (Value.slice A n c).ownBlock
set_option maxHeartbeats 4000000 in
set_option maxRecDepth 100000 in
theorem uMarkN (lo : Nat) (A : Option Addr) (n c k : Nat) (xs : List Nm) (w : World) (hk : 1 ≤ k) (hk2 : k ≤ 1073741824) (hn : n ≤ 1048576) (h : w.ownsRow lo 100 5 (.slice A n c) n (nmV xs)) :
    Calls Tryz.prog 112 #[.slice A n c, .int .i64 (k : Int)] w (MarkedN lo A n c k w) := by
  have hxl : xs.length = n := by have := h.1; rw [nmV_len] at this; omega
  rcases Nat.eq_zero_or_pos n with rfl | hp
  · refine (cMarkN_none A c k w).mono ?_
    rintro e w' ⟨rfl, rfl⟩
    obtain rfl : xs = [] := List.eq_nil_of_length_eq_zero hxl
    exact ⟨rfl, h, World.grownBy.refl _ _⟩
  obtain ⟨g, cc, hv, _, hgl⟩ := World.ownsRow.form h hp
  obtain ⟨rfl, rfl⟩ : A = some ⟨g, 0, none⟩ ∧ c = cc := by injection hv with h1 h2 h3; exact ⟨h1, h3⟩
  have H := Lib.hid h
  have HX := Lib.hid hxl
  clear hv h hxl
  go_enter Tryz.func112, Tryz.ntmps112
  go_wp2_with fail
  go_loopw [1, 5] (fun kk i wr => ∃ (j : Nat), j ≤ n ∧ i = .int .i64 j ∧ kk = .int .i64 ((k : Int) + 5 * j) ∧ Hid (wr.ownsRow lo 100 5 (.slice (some ⟨g, 0, none⟩) n c) n (nmV (markN k j xs))) ∧ w.grownBy wr (some g)) (fun _ i _ => n - (intOf i).toNat)
  case atStart => exact ⟨0, Nat.zero_le _, rfl, by simp, by unfold markN marksN; exact H, World.grownBy.refl _ _⟩
  case round =>
    obtain ⟨j, hj, rfl, rfl, HR, hgr⟩ := hrel
    by_cases hlt : j < n
    · have hm0 := fun W => cMarkText (k + 5 * j) W (by omega) (by omega)
      have hm1 := fun W => cMarkText (k + 5 * j + 1) W (by omega) (by omega)
      rw [show ((k + 5 * j : Nat) : Int) = (k : Int) + 5 * (j : Int) from by omega] at hm0
      rw [show ((k + 5 * j + 1 : Nat) : Int) = (k : Int) + 5 * (j : Int) + 1 from by omega] at hm1
      have HM0 := Lib.hid hm0
      have HM1 := Lib.hid hm1
      clear hm0 hm1
      have u1 : (0 : Int) ≤ (j : Int) := Int.natCast_nonneg _
      have u2 : (j : Int) < (n : Int) := by omega
      have u3 : (0 : Int) ≤ (k : Int) := Int.natCast_nonneg _
      have u4 : (k : Int) + 5 * (j : Int) ≤ 1099511627776 := by omega
      go_wp2_with fail
      refine (HM0.out _).mono ?_
      rintro e w1 ⟨rfl, hb1⟩
      have hown1 := HR.out.kept (bgrown9 hb1 none) (by simp [Value.ownBlock])
      have hl1 := hown1.1
      obtain ⟨v0, d0⟩ : ∃ v, w1.cell? ⟨g, j * 5, none⟩ = some v := ⟨_, (hown1.cellAt (j * 5) (by omega)).trans (List.getElem?_eq_getElem (by omega))⟩
      have f0 := hown1.frozenAt (j * 5)
      have hst1 := hown1.stored (j * 5) (.string (markB (k + 5 * j)))
      have hgr1 := (hgr.trans (bgrown9 hb1 (some g))).trans hst1.2
      have HS1 := Lib.hid hst1.1
      clear hst1 hown1 hl1 hgr hb1 HR
      go_wp2_with fail
      refine (HM1.out _).mono ?_
      rintro e w2 ⟨rfl, hb2⟩
      have hown2 := HS1.out.kept (bgrown9 hb2 none) (by simp [Value.ownBlock])
      have hl2 := hown2.1
      obtain ⟨v1, d1⟩ : ∃ v, w2.cell? ⟨g, j * 5 + 1, none⟩ = some v := ⟨_, (hown2.cellAt (j * 5 + 1) (by omega)).trans (List.getElem?_eq_getElem (by omega))⟩
      obtain ⟨v2, d2⟩ : ∃ v, w2.cell? ⟨g, j * 5 + 2, none⟩ = some v := ⟨_, (hown2.cellAt (j * 5 + 2) (by omega)).trans (List.getElem?_eq_getElem (by omega))⟩
      obtain ⟨v3, d3⟩ : ∃ v, w2.cell? ⟨g, j * 5 + 3, none⟩ = some v := ⟨_, (hown2.cellAt (j * 5 + 3) (by omega)).trans (List.getElem?_eq_getElem (by omega))⟩
      obtain ⟨v4, d4⟩ : ∃ v, w2.cell? ⟨g, j * 5 + 4, none⟩ = some v := ⟨_, (hown2.cellAt (j * 5 + 4) (by omega)).trans (List.getElem?_eq_getElem (by omega))⟩
      have f1 := hown2.frozenAt (j * 5 + 1)
      have f2 := hown2.frozenAt (j * 5 + 2)
      have f3 := hown2.frozenAt (j * 5 + 3)
      have f4 := hown2.frozenAt (j * 5 + 4)
      have hst2 := hown2.stored (j * 5 + 1) (.string (markB (k + 5 * j + 1)))
      have hst3 := hst2.1.stored (j * 5 + 2) (.int .i64 ((k : Int) + 5 * (j : Int) + 1 + 1))
      have hst4 := hst3.1.stored (j * 5 + 3) (.int .i64 ((k : Int) + 5 * (j : Int) + 1 + 1 + 1))
      have hst5 := hst4.1.stored (j * 5 + 4) (.int .i64 ((k : Int) + 5 * (j : Int) + 1 + 1 + 1 + 1))
      have hgr3 := (((((hgr1.trans (bgrown9 hb2 (some g))).trans hst2.2).trans hst3.2).trans hst4.2).trans hst5.2)
      have hrow := hst5.1
      have hs5 := nmV_set5 (markN k j xs) j (markN1 (k + 5 * j)) (by rw [markN_len k j xs (by have := HX.out; omega), HX.out]; exact hlt)
      rw [markN_step k j xs (by rw [HX.out]; exact hlt)] at hs5
      have hs6 : ((((((nmV (markN k j xs)).set (j * 5) (.string (markB (k + 5 * j)))).set (j * 5 + 1) (.string (markB (k + 5 * j + 1)))).set (j * 5 + 2) (.int .i64 ((k : Int) + 5 * (j : Int) + 1 + 1))).set (j * 5 + 3) (.int .i64 ((k : Int) + 5 * (j : Int) + 1 + 1 + 1))).set (j * 5 + 4) (.int .i64 ((k : Int) + 5 * (j : Int) + 1 + 1 + 1 + 1))) = nmV (markN k (j + 1) xs) := by
        rw [← hs5]; unfold markN1; dsimp only; rw [show ((k + 5 * j : Nat) : Int) = (k : Int) + 5 * (j : Int) from by omega]
      rw [hs6] at hrow
      have HS3 := Lib.hid hrow
      clear hst2 hst3 hst4 hst5 hown2 hl2 hb2 HS1 hgr1 hs5 hs6 hrow
      go_wp2_with fail
      go_roundw
      case rel => exact ⟨j + 1, by omega, by go_num, by go_num, HS3, hgr3⟩
      case measure => simp [intOf]; omega
    · obtain rfl : j = n := by omega
      have hfin : wr.ownsRow lo 100 5 (.slice (some ⟨g, 0, none⟩) j c) j (nmV (marksN k j)) := by
        have h1 := HR.out
        unfold markN at h1
        rw [List.drop_eq_nil_of_le (by have := HX.out; omega), List.append_nil] at h1
        exact h1
      have HF := Lib.hid hfin
      clear hfin
      go_wp2_with fail
      go_ret
      exact ⟨ret_int (by omega), HF.out, hgr⟩

end Go.Proofs.YtglmibmjbignbaaGreatDoor
