/-
  The contract of spec.EditDistance: the last entry of the table of distances.
-/
import Derived.Test.YtdbbolnmcbhflaaLcsSpec
import Derived.Deep.RegionLaw
import Derived.IntWalk
import Derived.Laws.Cover1
namespace Go.Proofs.Ytdbbolnmcbhflaa
set_option linter.unusedVariables false
open Go.RowKit

set_option maxHeartbeats 2000000 in
set_option maxRecDepth 100000 in
theorem cDistance (a b : ByteArray) (w : World) (ha16 : a.size ≤ 16) (hb16 : b.size ≤ 16) :
    Calls Try.prog 31 #[.string a, .string b] w fun e w' => e = .returned (.int .i64 (dis a b a.size b.size)) ∧ Below w.heap.size w w' := by
  obtain ⟨i0, hi0, hz0, hz1, hz2⟩ := info_parts info_int64
  go_enter Try.func31, Try.ntmps31
  go_wp2
  go_loopw [5, 6] (fun r i wr => ∃ (k : Nat) (v : Value), k ≤ b.size + 1 ∧ i = .int .i64 k ∧ r = v ∧ wr.ownsRow w.heap.size 2 1 v k (rowV (dis a b 0) k) ∧ Below w.heap.size w wr) (fun _ i _ => b.size + 1 - (intOf i).toNat)
  case atStart =>
    exact ⟨0, _, Nat.zero_le _, rfl, rfl, World.ownsRow_lit (e := 2) (base := w.heap.size) (size := 1) w #[] 0 (Nat.le_refl _) (by decide) rfl, (Below.refl _ _).alloc (Nat.le_refl _) _⟩
  case round =>
    obtain ⟨k, v, hk, rfl, rfl, hown, hbw⟩ := hrel
    by_cases hlt : k ≤ b.size
    · have HV : Hid (dis a b 0 k = k) := Lib.hid (disR_zero _ k)
      go_wp2_with (at_builtin; refine wpList_append_own _ rfl _ _ 33 rfl w.heap.size 2 i0 (.int .i64 0) 1 8 Try.underlying33 hi0 hz0 hz1 hz2 rfl (by decide) _ _ _ rfl (hown.alloc _) ⟨wr.heap.size, 0, none⟩ 1 1 [.int .i64 k] rfl rfl ?c1 ?c2 ?c3 ?c4 ?c5 ?_)
      case c1 => exact one_cell _ _ _ (new_cell _ 0 _ _)
      case c2 => intro u hu; simp at hu; subst hu; rfl
      case c3 => unfold maxLen; omega
      case c4 => omega
      case c5 => have := hbw.size; simp; omega
      intro v' w1 hown1 hgrow1 _
      rw [← HV.out, rowV_snoc] at hown1
      have hb1 : Below w.heap.size w w1 := (hbw.alloc hbw.size _).grown hgrow1 (by have := hbw.size; simp; omega) (fun x hx => (hown.lt x hx).1)
      go_wp2
      go_roundw
      case rel => exact ⟨k + 1, v', by omega, by go_num, rfl, hown1, hb1⟩
      case measure => simp [intOf]; omega
    · have HK := Lib.hid (show k = b.size + 1 by omega)
      obtain ⟨g, cap, rfl, hg1, hg⟩ := World.ownsRow.form hown (by omega)
      obtain ⟨wp, rfl⟩ : ∃ wp : World, wp = wr := ⟨_, rfl⟩
      have HC0 : Hid (∀ j, j ≤ b.size → wp.cell? ⟨g, j, none⟩ = some (.int .i64 (dis a b 0 j))) := Lib.hid (fun j hj => (hown.cellAt j (by omega)).trans (rowV_at _ _ _ (by have := HK.out; omega)))
      go_wp2
      go_loopw [5, 7] (fun r i wr => ∃ (i' g cap n : Nat), i' ≤ a.size ∧ i = .int .i64 ((i' : Int) + 1) ∧ r = .slice (some ⟨g, 0, none⟩) n cap ∧ Hid (n = b.size + 1) ∧ g < wr.heap.size ∧
          Hid (∀ j, j ≤ b.size → wr.cell? ⟨g, j, none⟩ = some (.int .i64 (dis a b i' j))) ∧ Below w.heap.size w wr) (fun _ i _ => a.size + 1 - (intOf i).toNat)
      case atStart => exact ⟨0, g, cap, k, Nat.zero_le _, rfl, rfl, HK, hg, HC0, hbw⟩
      case round =>
        clear HC0 hbw hg hg1 hown
        obtain ⟨i, g, cap, n, hi, rfl, rfl, HN, hg, HC, hbw⟩ := hrel
        obtain ⟨wo, rfl⟩ : ∃ wo : World, wo = wr := ⟨_, rfl⟩
        have hn := HN.out
        by_cases hlt2 : i < a.size
        · have hd0 : decide ((i : Int) + 1 ≤ (a.size : Int)) = true := decide_eq_true (by omega)
          go_wp2
          go_loopw [8, 9] (fun nx kk wr => ∃ (m : Nat) (v : Value), m ≤ b.size ∧ kk = .int .i64 ((m : Int) + 1) ∧ nx = v ∧ wr.ownsRow wo.heap.size 2 1 v (m + 1) (rowV (dis a b (i + 1)) (m + 1)) ∧ Below wo.heap.size wo wr) (fun _ kk _ => b.size + 1 - (intOf kk).toNat)
          case atStart =>
            refine ⟨0, _, Nat.zero_le _, rfl, rfl, ?_, (Below.refl _ _).alloc (Nat.le_refl _) _⟩
            have hl := World.ownsRow_lit (e := 2) (base := wo.heap.size) (size := 1) wo #[.int .i64 ((i : Int) + 1)] 1 (Nat.le_refl _) (by decide) rfl
            rw [show (#[Value.int .i64 ((i : Int) + 1)] : Array Value).toList = rowV (dis a b (i + 1)) 1 from by rw [← rowV_one]; rw [show dis a b (i + 1) 0 = (i : Int) + 1 from (disR_col _ _).trans (by simp)]] at hl
            exact hl
          case round =>
            obtain ⟨m, v, hm, rfl, rfl, hown, hbi⟩ := hrel
            by_cases hlt3 : m < b.size
            · obtain ⟨gn, capn, rfl, hgn, hgl⟩ := World.ownsRow.form hown (by omega)
              have c1 : wr.cell? ⟨g, m, none⟩ = some (.int .i64 (dis a b i m)) := (hbi.cell hg).trans (HC.out m (by omega))
              have c2 : wr.cell? ⟨g, m + 1, none⟩ = some (.int .i64 (dis a b i (m + 1))) := (hbi.cell hg).trans (HC.out (m + 1) (by omega))
              have c3 : wr.cell? ⟨gn, m, none⟩ = some (.int .i64 (dis a b (i + 1) m)) := (hown.cellAt m (by omega)).trans (rowV_at _ _ _ (by omega))
              have b1 := dis_bd a b i m
              have b2 := dis_bd a b i (m + 1)
              have b3 := dis_bd a b (i + 1) m
              by_cases h3 : a[i] = b[m]
              · have hd := bne_yes a b i m hlt2 hlt3 h3
                have HV : Hid (dis a b (i + 1) (m + 1) = min (dis a b i m) (min (dis a b i (m + 1) + 1) (dis a b (i + 1) m + 1))) := Lib.hid (by have h := disR_next (same a b) i m; rw [if_pos (same_yes a b i m hlt2 hlt3 h3)] at h; simpa [dis] using h)
                clear h3
                go_wp2
                go_quiet (fail)
                go_wp2
                have c2' : (wr.drewN nq).cell? ⟨g, m + 1, none⟩ = some (.int .i64 (dis a b i (m + 1))) := c2
                have c3' : (wr.drewN nq).cell? ⟨gn, m, none⟩ = some (.int .i64 (dis a b (i + 1) m)) := c3
                have hown2 := own_dr hown nq
                have hb2 := below_dr hbi nq
                have hmin : (if dis a b (i + 1) m + 1 < (if dis a b i (m + 1) + 1 < dis a b i m then dis a b i (m + 1) + 1 else dis a b i m) then dis a b (i + 1) m + 1 else (if dis a b i (m + 1) + 1 < dis a b i m then dis a b i (m + 1) + 1 else dis a b i m)) = dis a b (i + 1) (m + 1) := by
                  have := HV.out
                  split <;> split at * <;> omega
                have HM := Lib.hid hmin
                clear hmin c1 c2 c3 hown hbi
                generalize wr.drewN nq = w2 at *
                have e1 : (0 : Int) ≤ (m : Int) := Int.natCast_nonneg _
                have e2 : (0 : Int) ≤ (m : Int) + 1 := by omega
                have e3 : (m : Int) + 1 < (n : Int) := by omega
                have e4 : (m : Int) < (m : Int) + 1 := by omega
                have f1 : m + 1 + 1 ≤ maxLen := by unfold maxLen; omega
                have f2 : (m + 1 + 1) * 8 ≤ 140737488355328 := by omega
                have f3 : wo.heap.size ≤ w2.heap.size + 1 := Nat.le_succ_of_le hb2.size
                have s1 : IntKind.i64.wrap ((m : Int)) = (m : Int) := IntWalk.i64_in _ (by omega)
                have s3 : IntKind.i64.wrap (dis a b i (m + 1) + 1) = dis a b i (m + 1) + 1 := IntWalk.i64_in _ (by omega)
                have s4 : IntKind.i64.wrap (dis a b (i + 1) m + 1) = dis a b (i + 1) m + 1 := IntWalk.i64_in _ (by omega)
                have t1 : ((m : Int) + 1).toNat = m + 1 := by omega
                have hmr : ∀ W, (Builtin.min_ #[2, 2, 2] 2 #[.int .i64 (dis a b i m), .int .i64 (dis a b i (m + 1) + 1), .int .i64 (dis a b (i + 1) m + 1)]).run Try.prog W = .ok (.int .i64 (dis a b (i + 1) (m + 1))) W := fun W => by
                  rw [run_min_int3]
                  exact congrArg (fun x => Result.ok (Value.int .i64 x) W) HM.out
                clear hn HM
                go_region_law ((refine step_append_lies _ (by rfl) _ _ _ (by rfl) wo.heap.size 2 i0 _ 1 8 Try.underlying33 hi0 hz0 hz1 hz2 rfl (by decide) (.slice (some ⟨gn, 0, none⟩) (m + 1) capn) (m + 1) _ (by rfl) ((hown2.alloc _).drew) ⟨w2.heap.size, 0, none⟩ 1 1 [.int .i64 (dis a b (i + 1) (m + 1))] (by rfl) (by rfl) (World.news_of_block (cs := #[.int .i64 (dis a b (i + 1) (m + 1))]) (t := 2) (fr := (0, 0)) (heap_alloc_new w2 _)) (by simp [Value.oneCell']) (by decide) f1 f2 (by simpa using f3) (w2.heap.size + 1) (by simp) ?_; intro gg cap' w1 hown1 hgrow1 hat hlt4))
                all_goals
                  rw [rowV_snoc] at hown1
                  have hb1 : Below wo.heap.size wo w1 := ((hb2.alloc hb2.size _).drew).grown hgrow1 (by simpa using f3) (fun x hx => by cases hx; exact hgn)
                  clear hmr s1 s3 s4 t1 hown2 hgrow1 c2' c3' HV
                  go_wp2
                  go_roundw
                  case rel => exact ⟨m + 1, _, by omega, by go_num, rfl, hown1, hb1⟩
                  case measure => simp [intOf]; omega
              · have hd := bne_no a b i m hlt2 hlt3 h3
                have HV : Hid (dis a b (i + 1) (m + 1) = min (dis a b i m + 1) (min (dis a b i (m + 1) + 1) (dis a b (i + 1) m + 1))) := Lib.hid (by have h := disR_next (same a b) i m; rw [if_neg (by simp [same_no a b i m hlt2 hlt3 h3])] at h; simpa [dis] using h)
                clear h3
                go_wp2
                go_quiet (fail)
                go_wp2
                have c2' : (wr.drewN nq).cell? ⟨g, m + 1, none⟩ = some (.int .i64 (dis a b i (m + 1))) := c2
                have c3' : (wr.drewN nq).cell? ⟨gn, m, none⟩ = some (.int .i64 (dis a b (i + 1) m)) := c3
                have hown2 := own_dr hown nq
                have hb2 := below_dr hbi nq
                have hmin : (if dis a b (i + 1) m + 1 < (if dis a b i (m + 1) + 1 < dis a b i m + 1 then dis a b i (m + 1) + 1 else dis a b i m + 1) then dis a b (i + 1) m + 1 else (if dis a b i (m + 1) + 1 < dis a b i m + 1 then dis a b i (m + 1) + 1 else dis a b i m + 1)) = dis a b (i + 1) (m + 1) := by
                  have := HV.out
                  split <;> split at * <;> omega
                have HM := Lib.hid hmin
                clear hmin c1 c2 c3 hown hbi
                generalize wr.drewN nq = w2 at *
                have e1 : (0 : Int) ≤ (m : Int) := Int.natCast_nonneg _
                have e2 : (0 : Int) ≤ (m : Int) + 1 := by omega
                have e3 : (m : Int) + 1 < (n : Int) := by omega
                have e4 : (m : Int) < (m : Int) + 1 := by omega
                have f1 : m + 1 + 1 ≤ maxLen := by unfold maxLen; omega
                have f2 : (m + 1 + 1) * 8 ≤ 140737488355328 := by omega
                have f3 : wo.heap.size ≤ w2.heap.size + 1 := Nat.le_succ_of_le hb2.size
                have s1 : IntKind.i64.wrap ((m : Int)) = (m : Int) := IntWalk.i64_in _ (by omega)
                have s3 : IntKind.i64.wrap (dis a b i (m + 1) + 1) = dis a b i (m + 1) + 1 := IntWalk.i64_in _ (by omega)
                have s4 : IntKind.i64.wrap (dis a b (i + 1) m + 1) = dis a b (i + 1) m + 1 := IntWalk.i64_in _ (by omega)
                have t1 : ((m : Int) + 1).toNat = m + 1 := by omega
                have hmr : ∀ W, (Builtin.min_ #[2, 2, 2] 2 #[.int .i64 (dis a b i m + 1), .int .i64 (dis a b i (m + 1) + 1), .int .i64 (dis a b (i + 1) m + 1)]).run Try.prog W = .ok (.int .i64 (dis a b (i + 1) (m + 1))) W := fun W => by
                  rw [run_min_int3]
                  exact congrArg (fun x => Result.ok (Value.int .i64 x) W) HM.out
                clear hn HM
                go_region_law ((refine step_append_lies _ (by rfl) _ _ _ (by rfl) wo.heap.size 2 i0 _ 1 8 Try.underlying33 hi0 hz0 hz1 hz2 rfl (by decide) (.slice (some ⟨gn, 0, none⟩) (m + 1) capn) (m + 1) _ (by rfl) ((hown2.alloc _).drew) ⟨w2.heap.size, 0, none⟩ 1 1 [.int .i64 (dis a b (i + 1) (m + 1))] (by rfl) (by rfl) (World.news_of_block (cs := #[.int .i64 (dis a b (i + 1) (m + 1))]) (t := 2) (fr := (0, 0)) (heap_alloc_new w2 _)) (by simp [Value.oneCell']) (by decide) f1 f2 (by simpa using f3) (w2.heap.size + 1) (by simp) ?_; intro gg cap' w1 hown1 hgrow1 hat hlt4))
                all_goals
                  rw [rowV_snoc] at hown1
                  have hb1 : Below wo.heap.size wo w1 := ((hb2.alloc hb2.size _).drew).grown hgrow1 (by simpa using f3) (fun x hx => by cases hx; exact hgn)
                  clear hmr s1 s3 s4 t1 hown2 hgrow1 c2' c3' HV
                  go_wp2
                  go_roundw
                  case rel => exact ⟨m + 1, _, by omega, by go_num, rfl, hown1, hb1⟩
                  case measure => simp [intOf]; omega
            · obtain ⟨gn, capn, rfl, hgn, hgl⟩ := World.ownsRow.form hown (by omega)
              obtain rfl : m = b.size := by omega
              go_wp2
              go_roundw
              case rel => exact ⟨i + 1, gn, capn, b.size + 1, by omega, by go_num, rfl, Lib.hid rfl, hgl, Lib.hid (fun j hj => (hown.cellAt j (by omega)).trans (rowV_at _ _ _ (by omega))), hbw.trans (hbi.mono hbw.size)⟩
              case measure => simp [intOf]; omega
        · have c1 : wo.cell? ⟨g, b.size, none⟩ = some (.int .i64 (dis a b a.size b.size)) := by
            have h := HC.out b.size (Nat.le_refl _)
            rwa [show i = a.size by omega] at h
          go_wp2
          go_ret
          exact ⟨rfl, hbw⟩

theorem cEd_spec_no (a b : ByteArray) (w : World) (ha : a.size ≤ maxLen) (hb : b.size ≤ maxLen) (h : twoE a b = false) :
    Calls Try.prog 8 #[.string a, .string b] w fun e w' => e = .returned (.tuple #[.int .i64 0, .int .i64 1]) ∧ w = w' := by
  have H := Lib.hid h
  clear h
  go_enter Try.func8, Try.ntmps8
  go_wp2_with fail
  refine (cTwo_no a b _ ha hb H.out).mono ?_
  rintro e w' ⟨rfl, rfl⟩
  go_wp2_with fail
  go_ret2
  exact ⟨rfl, rfl⟩
theorem cEd_spec_yes (a b : ByteArray) (w : World) (ha : a.size ≤ maxLen) (hb : b.size ≤ maxLen) (ha16 : a.size ≤ 16) (hb16 : b.size ≤ 16) (h : twoE a b = true) :
    Calls Try.prog 8 #[.string a, .string b] w fun e w' => e = .returned (.tuple #[.int .i64 (dis a b a.size b.size), .int .i64 0]) ∧ Below w.heap.size w w' := by
  have H := Lib.hid h
  clear h
  go_enter Try.func8, Try.ntmps8
  go_wp2_with fail
  refine (cTwo_yes a b _ ha hb H.out).mono ?_
  rintro e w' ⟨rfl, rfl⟩
  go_wp2_with fail
  refine (cDistance a b _ ha16 hb16).mono ?_
  rintro e w1 ⟨rfl, hg⟩
  go_wp2_with fail
  go_ret2
  exact ⟨rfl, hg⟩
end Go.Proofs.Ytdbbolnmcbhflaa
