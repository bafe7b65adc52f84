/-
  The contract of spec.ReadSpan.
-/
import Derived.Test.YthlilfdndpnbkaaGreatDoorMg14
import Derived.Test.YthlilfdndpnbkaaGreatDoorSplit
namespace Go.Proofs.YthlilfdndpnbkaaGreatDoor
set_option linter.unusedVariables false
open Go.RowKit

theorem piece_sz (c : UInt8) (k : Nat) : ∀ (s x : ByteArray), x ∈ Lib.splitB (sepB c) 0 k s → x.size ≤ s.size := by
  induction k with
  | zero => intro s x h; simp [Lib.splitB] at h; subst h; exact Nat.le_refl _
  | succ k ih =>
    intro s x h
    rcases Lib.indexB_cases s (sepB c) with hm | ⟨i, hi, hr⟩
    · rw [Lib.splitB_miss _ _ _ _ hm] at h; simp at h; subst h; exact Nat.le_refl _
    · rw [Lib.splitB_hit _ _ _ _ i hi, List.mem_cons] at h
      rcases h with h | h
      · subst h; rw [ByteArray.size_extract]; omega
      · have := ih _ _ h
        rw [ByteArray.size_extract] at this; omega

set_option maxHeartbeats 1000000 in
set_option maxRecDepth 100000 in
theorem cRS_spec (s : ByteArray) (x y c : Int) (w : World) (hs : s.size ≤ 1073741824)
    (hcase : (s = spanB x y ∧ spB x y = true ∧ c = 0) ∨ ((∀ u v, spB u v = true → s ≠ spanB u v) ∧ x = 0 ∧ y = 0 ∧ c = 6)) :
    Calls Tryz.prog 54 #[.string s] w fun e w' => e = .returned (rsV x y c) ∧ Below w.heap.size w w' := by
  have hps : ∀ p ∈ piecesB 46 s, p.size ≤ 1073741824 := fun p hp => Nat.le_trans (piece_sz 46 _ s p hp) hs
  have hpos : 0 < (piecesB 46 s).length := by rw [← rest_zero]; exact rest_pos _ _ _
  have hmax := pieces_len 46 s
  have HC := Lib.hid (fun W => cSplit 46 46 rfl s W hs)
  have hsp : s = spanB x y → piecesB 46 s = [numB x, ByteArray.empty, numB y] := fun e => by rw [e]; exact pieces_span x y
  have hb0 : Below w.heap.size w (w.alloc (.cells #[.int .i64 0, .int .i64 0] 25)) := (Below.refl _ _).alloc (Nat.le_refl _) _
  have K0 := ResAt.new w 0 0 25
  obtain ⟨ps, hpe⟩ : ∃ ps, ps = piecesB 46 s := ⟨_, rfl⟩
  rw [← hpe] at hps hpos hmax HC hsp
  by_cases h3 : ps.length = 3
  · obtain ⟨p, q, r, rfl⟩ : ∃ p q r, ps = [p, q, r] := by
      match ps, h3 with
      | [p, q, r], _ => exact ⟨p, q, r, rfl⟩
    have C1 := Lib.hid (fun W => cSigned p W (hps p (by simp)))
    have C2 := Lib.hid (fun W => cSigned r W (hps r (by simp)))
    clear hps hpos hmax h3 hpe
    by_cases hq : q = ByteArray.empty
    · obtain rfl := hq
      have z1 : ((ByteArray.empty).toList == (⟨#[]⟩ : ByteArray).toList) = true := beq_self_eq_true _
      obtain ⟨a, ha⟩ : ∃ a, a = sN p := ⟨_, rfl⟩
      obtain ⟨b, hb⟩ : ∃ b, b = sN r := ⟨_, rfl⟩
      rw [← ha] at C1
      rw [← hb] at C2
      cases h1 : sB p
      · rw [h1] at C1
        obtain ⟨rfl, rfl, rfl⟩ : x = 0 ∧ y = 0 ∧ c = 6 := by
          rcases hcase with ⟨hs, hv, _⟩ | ⟨_, e⟩
          · exfalso
            have hx := hsp hs
            injection hx with e1 hx
            injection hx with e2 hx
            injection hx with e3 hx
            have hbd := spB_bd hv
            rw [e1, (sB_of x (by omega) (by omega)).1] at h1
            cases h1
          · exact e
        cases h2 : sB r
        all_goals
          rw [h2] at C2
          clear hcase hsp h1 h2 ha hb hs
          go_enter Tryz.func54, Tryz.ntmps54
          go_wp2_with fail
          refine (HC.out _).mono ?_
          rintro e w1 ⟨v, rfl, own, g1⟩
          have hb1 := hb0.trans (g1.mono hb0.size)
          have K1 := K0.below g1
          obtain ⟨g, cap, rfl, _, hlt⟩ := own.form (by simp)
          have d0 : w1.cell? ⟨g, 0, none⟩ = some (.string p) := own.cellAt 0 (by simp)
          have d1 : w1.cell? ⟨g, 1, none⟩ = some (.string ByteArray.empty) := own.cellAt 1 (by simp)
          have d2 : w1.cell? ⟨g, 2, none⟩ = some (.string r) := own.cellAt 2 (by simp)
          clear own
          go_wp2_with fail
          refine (C1.out _).mono ?_
          rintro e w2 ⟨rfl, g2⟩
          have hb2 := hb1.trans (g2.mono hb1.size)
          have K2 := K1.below g2
          have d2' : w2.cell? ⟨g, 2, none⟩ = some (.string r) := (g2.cell (p := ⟨g, 2, none⟩) hlt).trans d2
          go_wp2_with fail
          refine (C2.out _).mono ?_
          rintro e w3 ⟨rfl, g3⟩
          have hb3 := hb2.trans (g3.mono hb2.size)
          have K3 := K2.below g3
          have K4 := K3.below (below_alloc w3 (.cells #[.int .i64 a, .int .i64 b] 25))
          have hb4 := hb3.alloc hb3.size (.cells #[.int .i64 a, .int .i64 b] 25)
          obtain ⟨⟨l3, a0, a1⟩, f0, f1⟩ := K4
          go_wp2_with fail
          refine bodyPost_ret ?_ rfl ⟨rfl, below_set2 hb4 (Nat.le_refl _) _ _⟩
          simp [results, Tryz.results54, go_sem, a0, a1, rsV]
      · rw [h1] at C1
        cases h2 : sB r
        · rw [h2] at C2
          obtain ⟨rfl, rfl, rfl⟩ : x = 0 ∧ y = 0 ∧ c = 6 := by
            rcases hcase with ⟨hs, hv, _⟩ | ⟨_, e⟩
            · exfalso
              have hx := hsp hs
              injection hx with e1 hx
              injection hx with e2 hx
              injection hx with e3 hx
              have hbd := spB_bd hv
              rw [e3, (sB_of y (by omega) (by omega)).1] at h2
              cases h2
            · exact e
          clear hcase hsp h1 h2 ha hb hs
          go_enter Tryz.func54, Tryz.ntmps54
          go_wp2_with fail
          refine (HC.out _).mono ?_
          rintro e w1 ⟨v, rfl, own, g1⟩
          have hb1 := hb0.trans (g1.mono hb0.size)
          have K1 := K0.below g1
          obtain ⟨g, cap, rfl, _, hlt⟩ := own.form (by simp)
          have d0 : w1.cell? ⟨g, 0, none⟩ = some (.string p) := own.cellAt 0 (by simp)
          have d1 : w1.cell? ⟨g, 1, none⟩ = some (.string ByteArray.empty) := own.cellAt 1 (by simp)
          have d2 : w1.cell? ⟨g, 2, none⟩ = some (.string r) := own.cellAt 2 (by simp)
          clear own
          go_wp2_with fail
          refine (C1.out _).mono ?_
          rintro e w2 ⟨rfl, g2⟩
          have hb2 := hb1.trans (g2.mono hb1.size)
          have K2 := K1.below g2
          have d2' : w2.cell? ⟨g, 2, none⟩ = some (.string r) := (g2.cell (p := ⟨g, 2, none⟩) hlt).trans d2
          go_wp2_with fail
          refine (C2.out _).mono ?_
          rintro e w3 ⟨rfl, g3⟩
          have hb3 := hb2.trans (g3.mono hb2.size)
          have K3 := K2.below g3
          have K4 := K3.below (below_alloc w3 (.cells #[.int .i64 a, .int .i64 b] 25))
          have hb4 := hb3.alloc hb3.size (.cells #[.int .i64 a, .int .i64 b] 25)
          obtain ⟨⟨l3, a0, a1⟩, f0, f1⟩ := K4
          go_wp2_with fail
          refine bodyPost_ret ?_ rfl ⟨rfl, below_set2 hb4 (Nat.le_refl _) _ _⟩
          simp [results, Tryz.results54, go_sem, a0, a1, rsV]
        · rw [h2] at C2
          have C3 := Lib.hid (fun W => cIsSpan_spec a b W)
          cases hv : spB a b
          · rw [hv] at C3
            obtain ⟨rfl, rfl, rfl⟩ : x = 0 ∧ y = 0 ∧ c = 6 := by
              rcases hcase with ⟨hs, hv2, _⟩ | ⟨_, e⟩
              · exfalso
                have hx := hsp hs
                injection hx with e1 hx
                injection hx with e2 hx
                injection hx with e3 hx
                have hbd := spB_bd hv2
                rw [ha, hb, e1, e3, (sB_of x (by omega) (by omega)).2, (sB_of y (by omega) (by omega)).2, hv2] at hv
                cases hv
              · exact e
            clear hcase hsp h1 h2 ha hb hs hv
            go_enter Tryz.func54, Tryz.ntmps54
            go_wp2_with fail
            refine (HC.out _).mono ?_
            rintro e w1 ⟨v, rfl, own, g1⟩
            have hb1 := hb0.trans (g1.mono hb0.size)
            have K1 := K0.below g1
            obtain ⟨g, cap, rfl, _, hlt⟩ := own.form (by simp)
            have d0 : w1.cell? ⟨g, 0, none⟩ = some (.string p) := own.cellAt 0 (by simp)
            have d1 : w1.cell? ⟨g, 1, none⟩ = some (.string ByteArray.empty) := own.cellAt 1 (by simp)
            have d2 : w1.cell? ⟨g, 2, none⟩ = some (.string r) := own.cellAt 2 (by simp)
            clear own
            go_wp2_with fail
            refine (C1.out _).mono ?_
            rintro e w2 ⟨rfl, g2⟩
            have hb2 := hb1.trans (g2.mono hb1.size)
            have K2 := K1.below g2
            have d2' : w2.cell? ⟨g, 2, none⟩ = some (.string r) := (g2.cell (p := ⟨g, 2, none⟩) hlt).trans d2
            go_wp2_with fail
            refine (C2.out _).mono ?_
            rintro e w3 ⟨rfl, g3⟩
            have hb3 := hb2.trans (g3.mono hb2.size)
            have K3 := K2.below g3
            have K4 := K3.below (below_alloc w3 (.cells #[.int .i64 a, .int .i64 b] 25))
            have hb4 := hb3.alloc hb3.size (.cells #[.int .i64 a, .int .i64 b] 25)
            have Q4 := BoxAt.new w3 a b 25
            go_wp2_with fail
            refine (C3.out _).mono ?_
            rintro e w5 ⟨rfl, g5⟩
            have hb5 := hb4.trans (g5.mono hb4.size)
            have K5 := K4.below g5
            have Q5 := Q4.below g5
            obtain ⟨⟨l3, a0, a1⟩, f0, f1⟩ := K5
            obtain ⟨l5, b0, b1⟩ := Q5
            go_wp2_with fail
            refine bodyPost_ret ?_ rfl ⟨rfl, below_set2 hb5 (Nat.le_refl _) _ _⟩
            simp [results, Tryz.results54, go_sem, a0, a1, rsV]
          · rw [hv] at C3
            have hbd2 := spB_bd hv
            have C4 := Lib.hid (fun W => cText2 a b W (by omega) (by omega))
            by_cases ht : spanB a b = s
            · obtain ⟨rfl, rfl, rfl⟩ : a = x ∧ b = y ∧ c = 0 := by
                rcases hcase with ⟨hs, hv, hc⟩ | ⟨e, _⟩
                · have hx := hsp hs
                  injection hx with e1 hx
                  injection hx with e2 hx
                  injection hx with e3 hx
                  have hbd := spB_bd hv
                  refine ⟨?_, ?_, hc⟩
                  · rw [ha, e1, (sB_of x (by omega) (by omega)).2]
                  · rw [hb, e3, (sB_of y (by omega) (by omega)).2]
                · exact absurd ht.symm (e a b hv)
              have hz : ((spanB a b).toList == s.toList) = true := by rw [ht, beq_self_eq_true]
              clear hcase hsp h1 h2 ha hb hs hv hbd2 ht
              go_enter Tryz.func54, Tryz.ntmps54
              go_wp2_with fail
              refine (HC.out _).mono ?_
              rintro e w1 ⟨v, rfl, own, g1⟩
              have hb1 := hb0.trans (g1.mono hb0.size)
              have K1 := K0.below g1
              obtain ⟨g, cap, rfl, _, hlt⟩ := own.form (by simp)
              have d0 : w1.cell? ⟨g, 0, none⟩ = some (.string p) := own.cellAt 0 (by simp)
              have d1 : w1.cell? ⟨g, 1, none⟩ = some (.string ByteArray.empty) := own.cellAt 1 (by simp)
              have d2 : w1.cell? ⟨g, 2, none⟩ = some (.string r) := own.cellAt 2 (by simp)
              clear own
              go_wp2_with fail
              refine (C1.out _).mono ?_
              rintro e w2 ⟨rfl, g2⟩
              have hb2 := hb1.trans (g2.mono hb1.size)
              have K2 := K1.below g2
              have d2' : w2.cell? ⟨g, 2, none⟩ = some (.string r) := (g2.cell (p := ⟨g, 2, none⟩) hlt).trans d2
              go_wp2_with fail
              refine (C2.out _).mono ?_
              rintro e w3 ⟨rfl, g3⟩
              have hb3 := hb2.trans (g3.mono hb2.size)
              have K3 := K2.below g3
              have K4 := K3.below (below_alloc w3 (.cells #[.int .i64 a, .int .i64 b] 25))
              have hb4 := hb3.alloc hb3.size (.cells #[.int .i64 a, .int .i64 b] 25)
              have Q4 := BoxAt.new w3 a b 25
              go_wp2_with fail
              refine (C3.out _).mono ?_
              rintro e w5 ⟨rfl, g5⟩
              have hb5 := hb4.trans (g5.mono hb4.size)
              have K5 := K4.below g5
              have Q5 := Q4.below g5
              obtain ⟨_, b0, b1⟩ := id Q5
              go_wp2_with fail
              refine (C4.out _).mono ?_
              rintro e w6 ⟨rfl, g6⟩
              have hb6 := hb5.trans (g6.mono hb5.size)
              obtain ⟨⟨l3, a0, a1⟩, f0, f1⟩ := K5.below g6
              obtain ⟨l6, e0, e1⟩ := Q5.below g6
              go_wp2_with fail
              refine bodyPost_ret ?_ rfl ⟨rfl, below_set2 hb6 (Nat.le_refl _) _ _⟩
              simp [results, Tryz.results54, go_sem, a0, a1, rsV]
            · obtain ⟨rfl, rfl, rfl⟩ : x = 0 ∧ y = 0 ∧ c = 6 := by
                rcases hcase with ⟨hs, hv2, hc⟩ | ⟨_, e⟩
                · exfalso
                  have hx := hsp hs
                  injection hx with e1 hx
                  injection hx with e2 hx
                  injection hx with e3 hx
                  have hbd := spB_bd hv2
                  refine ht ?_
                  rw [hs, ha, hb, e1, e3, (sB_of x (by omega) (by omega)).2, (sB_of y (by omega) (by omega)).2]
                · exact e
              have hz : ((spanB a b).toList == s.toList) = false := toList_ne ht
              clear hcase hsp h1 h2 ha hb hs hv hbd2 ht
              go_enter Tryz.func54, Tryz.ntmps54
              go_wp2_with fail
              refine (HC.out _).mono ?_
              rintro e w1 ⟨v, rfl, own, g1⟩
              have hb1 := hb0.trans (g1.mono hb0.size)
              have K1 := K0.below g1
              obtain ⟨g, cap, rfl, _, hlt⟩ := own.form (by simp)
              have d0 : w1.cell? ⟨g, 0, none⟩ = some (.string p) := own.cellAt 0 (by simp)
              have d1 : w1.cell? ⟨g, 1, none⟩ = some (.string ByteArray.empty) := own.cellAt 1 (by simp)
              have d2 : w1.cell? ⟨g, 2, none⟩ = some (.string r) := own.cellAt 2 (by simp)
              clear own
              go_wp2_with fail
              refine (C1.out _).mono ?_
              rintro e w2 ⟨rfl, g2⟩
              have hb2 := hb1.trans (g2.mono hb1.size)
              have K2 := K1.below g2
              have d2' : w2.cell? ⟨g, 2, none⟩ = some (.string r) := (g2.cell (p := ⟨g, 2, none⟩) hlt).trans d2
              go_wp2_with fail
              refine (C2.out _).mono ?_
              rintro e w3 ⟨rfl, g3⟩
              have hb3 := hb2.trans (g3.mono hb2.size)
              have K3 := K2.below g3
              have K4 := K3.below (below_alloc w3 (.cells #[.int .i64 a, .int .i64 b] 25))
              have hb4 := hb3.alloc hb3.size (.cells #[.int .i64 a, .int .i64 b] 25)
              have Q4 := BoxAt.new w3 a b 25
              go_wp2_with fail
              refine (C3.out _).mono ?_
              rintro e w5 ⟨rfl, g5⟩
              have hb5 := hb4.trans (g5.mono hb4.size)
              have K5 := K4.below g5
              have Q5 := Q4.below g5
              obtain ⟨_, b0, b1⟩ := id Q5
              go_wp2_with fail
              refine (C4.out _).mono ?_
              rintro e w6 ⟨rfl, g6⟩
              have hb6 := hb5.trans (g6.mono hb5.size)
              obtain ⟨⟨l3, a0, a1⟩, f0, f1⟩ := K5.below g6
              obtain ⟨l6, e0, e1⟩ := Q5.below g6
              go_wp2_with fail
              refine bodyPost_ret ?_ rfl ⟨rfl, below_set2 hb6 (Nat.le_refl _) _ _⟩
              simp [results, Tryz.results54, go_sem, a0, a1, rsV]
    · have z1 : (q.toList == (⟨#[]⟩ : ByteArray).toList) = false := toList_ne hq
      have z2 : q.toList.isEmpty = false := by
        rw [List.isEmpty_eq_false_iff, ByteArray.toList_eq]
        exact fun e => hq (ByteArray.ext (Array.toList_inj.1 e))
      obtain ⟨rfl, rfl, rfl⟩ : x = 0 ∧ y = 0 ∧ c = 6 := by
        rcases hcase with ⟨hs, hv, _⟩ | ⟨_, e⟩
        · exfalso
          have hx := hsp hs
          injection hx with e1 hx
          injection hx with e2 hx
          exact hq e2
        · exact e
      clear hcase hsp hs hq C1 C2
      go_enter Tryz.func54, Tryz.ntmps54
      go_wp2_with fail
      refine (HC.out _).mono ?_
      rintro e w1 ⟨v, rfl, own, g1⟩
      have hb1 := hb0.trans (g1.mono hb0.size)
      have K1 := K0.below g1
      obtain ⟨g, cap, rfl, _, hlt⟩ := own.form (by simp)
      have d0 : w1.cell? ⟨g, 0, none⟩ = some (.string p) := own.cellAt 0 (by simp)
      have d1 : w1.cell? ⟨g, 1, none⟩ = some (.string q) := own.cellAt 1 (by simp)
      have d2 : w1.cell? ⟨g, 2, none⟩ = some (.string r) := own.cellAt 2 (by simp)
      clear own
      obtain ⟨⟨l3, a0, a1⟩, f0, f1⟩ := K1
      go_wp2_with fail
      refine bodyPost_ret ?_ rfl ⟨rfl, below_set2 hb1 (Nat.le_refl _) _ _⟩
      simp [results, Tryz.results54, go_sem, a0, a1, rsV]
  · have z1 : ((ps.length : Int) == 3) = false := by rw [beq_eq_false_iff_ne]; omega
    obtain ⟨rfl, rfl, rfl⟩ : x = 0 ∧ y = 0 ∧ c = 6 := by
      rcases hcase with ⟨hs, hv, _⟩ | ⟨_, e⟩
      · exfalso
        have hx := hsp hs
        rw [hx] at h3
        exact h3 rfl
      · exact e
    clear hcase hsp hps hpe
    go_enter Tryz.func54, Tryz.ntmps54
    go_wp2_with fail
    refine (HC.out _).mono ?_
    rintro e w1 ⟨v, rfl, own, g1⟩
    have hb1 := hb0.trans (g1.mono hb0.size)
    have K1 := K0.below g1
    obtain ⟨g, cap, rfl, _, hlt⟩ := own.form hpos
    clear own
    obtain ⟨⟨l3, a0, a1⟩, f0, f1⟩ := K1
    go_wp2_with fail
    refine bodyPost_ret ?_ rfl ⟨rfl, below_set2 hb1 (Nat.le_refl _) _ _⟩
    simp [results, Tryz.results54, go_sem, a0, a1, rsV]
end Go.Proofs.YthlilfdndpnbkaaGreatDoor
