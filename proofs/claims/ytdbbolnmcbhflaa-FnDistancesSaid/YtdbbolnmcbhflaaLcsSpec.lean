/-
  The contract of spec.LettersInCommon: the last entry of the table of letters in common.
-/
import Derived.Test.YtdbbolnmcbhflaaStart
import Derived.Test.YtdbbolnmcbhflaaDpPlain
import Derived.OwnWalk
import Derived.Laws.OwnMore
import Derived.Deep.AppendLies
namespace Go.Proofs.Ytdbbolnmcbhflaa
set_option linter.unusedVariables false
open Go.RowKit

theorem info_int64 : (Try.prog.info? 2).map (fun i => (i.zero, i.size, i.bytes)) = some (some (.int .i64 0), 1, 8) := by kernel_rfl

theorem made_zero (n : Nat) : (madeCells #[Value.int .i64 0] n).toList = rowV (fun _ => 0) n := by
  apply List.ext_getElem?
  intro j
  by_cases h : j < n
  · simp [madeCells, rowV, h, Nat.mod_one]
  · rw [List.getElem?_eq_none (by simp [madeCells]; omega), List.getElem?_eq_none (by simp [rowV]; omega)]

theorem own_dr {w : World} {base n : Nat} {e : TypeId} {size : Nat} {v : Value} {xs : List Value} (h : w.ownsRow base e size v n xs) (k : Nat) : (w.drewN k).ownsRow base e size v n xs := h
theorem below_dr {B : Nat} {a w : World} (h : Below B a w) (n : Nat) : Below B a (w.drewN n) := ⟨h.os, h.tape, h.output, h.size, h.block⟩
theorem new_cell (w : World) (n : Nat) (v : Value) (t : TypeId) : ((w.drewN n).alloc (.cells #[v] t)).cell? ⟨w.heap.size, 0, none⟩ = some v := by
  show ((w.drewN n).alloc (.cells #[v] t)).cell? ⟨(w.drewN n).heap.size, 0, none⟩ = some v
  rw [World.cell?_alloc_at _ _ _ _ rfl]; rfl
theorem one_cell (w : World) (B : Nat) (u : Value) (h : w.cell? ⟨B, 0, none⟩ = some u) : ∀ (j : Nat) x, [u][j]? = some x → w.cell? ((⟨B, 0, none⟩ : Addr).add j) = some x := by
  intro j x hx
  match j, hx with
  | 0, hx => obtain rfl : u = x := by simpa using hx
             simpa [Addr.add] using h

theorem cLcs_spec_no (a b : ByteArray) (w : World) (ha : a.size ≤ maxLen) (hb : b.size ≤ maxLen) (h : twoE a b = false) :
    Calls Try.prog 10 #[.string a, .string b] w fun e w' => e = .returned (.tuple #[.int .i64 0, .int .i64 1]) ∧ w = w' := by
  have H := Lib.hid h
  clear h
  go_enter Try.func10, Try.ntmps10
  go_wp2_with fail
  refine (cTwo_no a b _ ha hb H.out).mono ?_
  rintro e w' ⟨rfl, rfl⟩
  go_wp2_with fail
  go_ret2
  exact ⟨rfl, rfl⟩

set_option maxHeartbeats 1000000 in
set_option maxRecDepth 100000 in
theorem cLcs_spec_yes (a b : ByteArray) (w : World) (ha : a.size ≤ maxLen) (hb : b.size ≤ maxLen) (ha16 : a.size ≤ 16) (hb16 : b.size ≤ 16) (h : twoE a b = true) :
    Calls Try.prog 10 #[.string a, .string b] w fun e w' => e = .returned (.tuple #[.int .i64 (lcs a b a.size b.size), .int .i64 0]) ∧ Below w.heap.size w w' := by
  have H := Lib.hid h
  clear h
  obtain ⟨i0, hi0, hz0, hz1, hz2⟩ := info_parts info_int64
  go_enter Try.func10, Try.ntmps10
  go_wp2_with fail
  refine (cTwo_yes a b _ ha hb H.out).mono ?_
  rintro e w' ⟨rfl, rfl⟩
  go_wp2_with (at_make; refine wpList_make_full _ rfl _ _ 33 rfl w.heap.size 2 i0 (.int .i64 0) 1 Try.underlying33 hi0 hz0 hz1 _ _ _ _ (b.size + 1) rfl rfl (by simp) (by simp) ?b2 ?b3 (Nat.le_refl _) ?_)
  case b2 => rw [hz2]; omega
  case b3 => unfold maxLen; omega
  intro w0 hown0 hgrow0
  rw [made_zero] at hown0
  have hb0 : Below w.heap.size w w0 := (Below.refl _ _).grown hgrow0 (Nat.le_refl _) (fun k h => by cases h)
  have hlt0 : w.heap.size < w0.heap.size := (hown0.lt _ rfl).2
  go_wp2
  go_loopw [7, 8] (fun r i wr => ∃ (k g cap : Nat), k ≤ a.size ∧ i = .int .i64 k ∧ r = .slice (some ⟨g, 0, none⟩) (b.size + 1) cap ∧ g < wr.heap.size ∧
      Hid (∀ j, j ≤ b.size → wr.cell? ⟨g, j, none⟩ = some (.int .i64 (lcs a b k j))) ∧ Below w.heap.size w wr) (fun _ i _ => a.size - (intOf i).toNat)
  case atStart =>
    exact ⟨0, w.heap.size, b.size + 1, Nat.zero_le _, rfl, rfl, hlt0, Lib.hid (fun j hj => (hown0.cellAt j (by omega)).trans (rowV_at _ _ _ (by omega))), hb0⟩
  case round =>
    obtain ⟨k, g, cap, hk, rfl, rfl, hg, HC, hbw⟩ := hrel
    obtain ⟨wo, rfl⟩ : ∃ wo : World, wo = wr := ⟨_, rfl⟩
    by_cases hlt : k < a.size
    · go_wp2
      go_loopw [9, 10] (fun nx kk wr => ∃ (m : Nat) (v : Value), m ≤ b.size ∧ kk = .int .i64 m ∧ nx = v ∧ wr.ownsRow wo.heap.size 2 1 v (m + 1) (rowV (lcs a b (k + 1)) (m + 1)) ∧ Below wo.heap.size wo wr) (fun _ kk _ => b.size - (intOf kk).toNat)
      case atStart =>
        refine ⟨0, _, Nat.zero_le _, rfl, rfl, ?_, (Below.refl _ _).alloc (Nat.le_refl _) _⟩
        have hl := World.ownsRow_lit (e := 2) (base := wo.heap.size) (size := 1) wo #[.int .i64 0] 1 (Nat.le_refl _) (by decide) rfl
        rw [show (#[Value.int .i64 0] : Array Value).toList = rowV (lcs a b (k + 1)) 1 from by rw [← rowV_one]; rw [show lcs a b (k + 1) 0 = 0 from lcsR_col _ _]] at hl
        exact hl
      case round =>
        obtain ⟨m, v, hm, rfl, rfl, hown, hbi⟩ := hrel
        by_cases hlt2 : m < b.size
        · obtain ⟨gn, capn, rfl, hgn, hgl⟩ := World.ownsRow.form hown (by omega)
          have c1 : wr.cell? ⟨g, m, none⟩ = some (.int .i64 (lcs a b k m)) := (hbi.cell hg).trans (HC.out m (by omega))
          have c2 : wr.cell? ⟨g, m + 1, none⟩ = some (.int .i64 (lcs a b k (m + 1))) := (hbi.cell hg).trans (HC.out (m + 1) (by omega))
          have c3 : wr.cell? ⟨gn, m, none⟩ = some (.int .i64 (lcs a b (k + 1) m)) := (hown.cellAt m (by omega)).trans (rowV_at _ _ _ (by omega))
          have b1 := lcs_bd a b k m
          by_cases h3 : a[k] = b[m]
          · have hd := beq_yes a b k m hlt hlt2 h3
            have HV : Hid (lcs a b k m + 1 = lcs a b (k + 1) (m + 1)) := Lib.hid (lcsR_hit _ _ _ (same_yes a b k m hlt hlt2 h3)).symm
            clear h3
            rcases Int.lt_or_le (lcs a b k (m + 1)) (lcs a b (k + 1) m) with hmx | hmx
            all_goals
              go_wp2
              go_quiet (fail)
              go_wp2
              go_quiet (fail)
              go_wp2_with (at_builtin; refine wpList_append_own _ rfl _ _ 33 rfl wo.heap.size 2 i0 (.int .i64 0) 1 8 Try.underlying33 hi0 hz0 hz1 hz2 rfl (by decide) _ _ _ rfl ((own_dr hown _).alloc _) ⟨wr.heap.size, 0, none⟩ 1 1 [.int .i64 (lcs a b k m + 1)] rfl rfl ?c1y ?c2y ?c3y ?c4y ?c5y ?_)
              case c1y => exact one_cell _ _ _ (new_cell _ _ _ _)
              case c2y => intro u hu; simp at hu; subst hu; rfl
              case c3y => unfold maxLen; omega
              case c4y => omega
              case c5y => have := hbi.size; simp; omega
              intro v' w1 hown1 hgrow1 _
              rw [HV.out, rowV_snoc] at hown1
              have hb1 : Below wo.heap.size wo w1 := ((below_dr hbi _).alloc (by have := hbi.size; simpa using this) _).grown hgrow1 (by have := hbi.size; simp; omega) (fun k hk => by cases hk; exact hgn)
              go_wp2
              go_roundw
              case rel => exact ⟨m + 1, v', by omega, by go_num, rfl, hown1, hb1⟩
              case measure => simp [intOf]; omega
          · have hd := beq_no a b k m hlt hlt2 h3
            have HV : Hid (max (lcs a b k (m + 1)) (lcs a b (k + 1) m) = lcs a b (k + 1) (m + 1)) := Lib.hid (lcsR_miss _ _ _ (same_no a b k m hlt hlt2 h3)).symm
            clear h3
            rcases Int.lt_or_le (lcs a b k (m + 1)) (lcs a b (k + 1) m) with hmx | hmx
            · go_wp2
              go_quiet (fail)
              go_wp2
              go_quiet (fail)
              go_wp2_with (at_builtin; refine wpList_append_own _ rfl _ _ 33 rfl wo.heap.size 2 i0 (.int .i64 0) 1 8 Try.underlying33 hi0 hz0 hz1 hz2 rfl (by decide) _ _ _ rfl ((own_dr hown _).alloc _) ⟨wr.heap.size, 0, none⟩ 1 1 [.int .i64 (lcs a b (k + 1) m)] rfl rfl ?c1n ?c2n ?c3n ?c4n ?c5n ?_)
              case c1n => exact one_cell _ _ _ (new_cell _ _ _ _)
              case c2n => intro u hu; simp at hu; subst hu; rfl
              case c3n => unfold maxLen; omega
              case c4n => omega
              case c5n => have := hbi.size; simp; omega
              intro v' w1 hown1 hgrow1 _
              rw [show lcs a b (k + 1) m = lcs a b (k + 1) (m + 1) from by have := HV.out; omega, rowV_snoc] at hown1
              have hb1 : Below wo.heap.size wo w1 := ((below_dr hbi _).alloc (by have := hbi.size; simpa using this) _).grown hgrow1 (by have := hbi.size; simp; omega) (fun k hk => by cases hk; exact hgn)
              go_wp2
              go_roundw
              case rel => exact ⟨m + 1, v', by omega, by go_num, rfl, hown1, hb1⟩
              case measure => simp [intOf]; omega
            · go_wp2
              go_quiet (fail)
              go_wp2
              go_quiet (fail)
              go_wp2_with (at_builtin; refine wpList_append_own _ rfl _ _ 33 rfl wo.heap.size 2 i0 (.int .i64 0) 1 8 Try.underlying33 hi0 hz0 hz1 hz2 rfl (by decide) _ _ _ rfl ((own_dr hown _).alloc _) ⟨wr.heap.size, 0, none⟩ 1 1 [.int .i64 (lcs a b k (m + 1))] rfl rfl ?c1o ?c2o ?c3o ?c4o ?c5o ?_)
              case c1o => exact one_cell _ _ _ (new_cell _ _ _ _)
              case c2o => intro u hu; simp at hu; subst hu; rfl
              case c3o => unfold maxLen; omega
              case c4o => omega
              case c5o => have := hbi.size; simp; omega
              intro v' w1 hown1 hgrow1 _
              rw [show lcs a b k (m + 1) = lcs a b (k + 1) (m + 1) from by have := HV.out; omega, rowV_snoc] at hown1
              have hb1 : Below wo.heap.size wo w1 := ((below_dr hbi _).alloc (by have := hbi.size; simpa using this) _).grown hgrow1 (by have := hbi.size; simp; omega) (fun k hk => by cases hk; exact hgn)
              go_wp2
              go_roundw
              case rel => exact ⟨m + 1, v', by omega, by go_num, rfl, hown1, hb1⟩
              case measure => simp [intOf]; omega
        · obtain rfl : m = b.size := by omega
          obtain ⟨gn, capn, rfl, hgn, hgl⟩ := World.ownsRow.form hown (by omega)
          go_wp2
          go_roundw
          case rel => exact ⟨k + 1, gn, capn, by omega, by go_num, rfl, hgl, Lib.hid (fun j hj => (hown.cellAt j (by omega)).trans (rowV_at _ _ _ (by omega))), hbw.trans (hbi.mono hbw.size)⟩
          case measure => simp [intOf]; omega
    · obtain rfl : k = a.size := by omega
      have hcl := HC.out b.size (Nat.le_refl _)
      go_wp2
      go_ret2
      exact ⟨rfl, hbw⟩
end Go.Proofs.Ytdbbolnmcbhflaa
