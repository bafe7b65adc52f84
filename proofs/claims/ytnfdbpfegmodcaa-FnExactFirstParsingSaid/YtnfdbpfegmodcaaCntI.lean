/-
  The contract of impl.countRests: the row of the numbers of parsings of all rests of a text.
-/
import Derived.Test.YtnfdbpfegmodcaaCutFrom
import Derived.Test.YtnfdbpfegmodcaaDpPlain
import Derived.Test.YtnfdbpfegmodcaaTableS
import Derived.StillTailTactics
import Derived.Deep.WholeRow
import Derived.Laws.CopyOwn
namespace Go.Proofs.Ytnfdbpfegmodcaa
set_option linter.unusedVariables false
open Go.RowKit

/-- The first k numbers of f, then a, then zeros: 49 in all. -/
def cntC (f : Nat → Int) (k : Nat) (a : Int) : Array Value := ((List.range 49).map fun j => Value.int .i64 (if j < k then f j else if j = k then a else 0)).toArray
theorem cntC_size (f : Nat → Int) (k : Nat) (a : Int) : (cntC f k a).size = 49 := by simp [cntC]
theorem cntC_get (f : Nat → Int) (k : Nat) (a : Int) (j : Nat) (h : j < 49) : (cntC f k a)[j]? = some (.int .i64 (if j < k then f j else if j = k then a else 0)) := by
  simp [cntC, h]
theorem cntC_lt {f : Nat → Int} {k : Nat} {a : Int} {j : Nat} (h : j < 49) (hk : j < k) : (cntC f k a)[j]? = some (.int .i64 (f j)) := by rw [cntC_get _ _ _ _ h, if_pos hk]
theorem cntC_at {f : Nat → Int} {k : Nat} {a : Int} (h : k < 49) : (cntC f k a)[k]? = some (.int .i64 a) := by rw [cntC_get _ _ _ _ h, if_neg (by omega), if_pos rfl]
theorem cntC_set (f : Nat → Int) (k : Nat) (a b : Int) (h : k < 49) : (cntC f k a).setIfInBounds k (.int .i64 b) = cntC f k b := by
  apply Array.ext_getElem?
  intro j
  rcases Nat.lt_or_ge j 49 with hj | hj
  · by_cases he : k = j
    · subst he
      rw [Array.getElem?_setIfInBounds_self_of_lt (by rw [cntC_size]; exact h), cntC_at h]
    · rw [Array.getElem?_setIfInBounds_ne he, cntC_get _ _ _ _ hj, cntC_get _ _ _ _ hj, if_neg (show ¬ j = k from fun e => he e.symm), if_neg (show ¬ j = k from fun e => he e.symm)]
  · rw [Array.getElem?_eq_none (by simp [cntC_size]; exact hj), Array.getElem?_eq_none (by rw [cntC_size]; exact hj)]
theorem cntC_next (f : Nat → Int) (k : Nat) : cntC f k (f k) = cntC f (k + 1) 0 := by
  unfold cntC
  congr 1
  apply List.map_congr_left
  intro j _
  congr 1
  by_cases h1 : j < k
  · rw [if_pos h1, if_pos (by omega)]
  · rw [if_neg h1]
    by_cases h2 : j = k
    · subst h2; rw [if_pos rfl, if_pos (by omega)]
    · rw [if_neg h2, if_neg (by omega)]
      split <;> rfl
def zs49 : Array Value := Array.replicate 49 (.int .i64 0)
theorem zs49_size : zs49.size = 49 := by simp [zs49]
theorem zs49_ne : ¬ zs49 = #[] := by intro h; have := zs49_size; rw [h] at this; simp at this
theorem zero49 (w : World) : (zeroValue 94).run Try.prog w = .ok (.agg zs49) w := by kernel_rfl
theorem size49 : (Try.prog.info? 94).map (·.size) = some 49 := by kernel_rfl
theorem cntC_zero (f : Nat → Int) : zs49 = cntC f 0 0 := by
  apply Array.ext_getElem?
  intro j
  rcases Nat.lt_or_ge j 49 with hj | hj
  · rw [cntC_get _ _ _ _ hj, if_neg (by omega)]
    simp [zs49, hj]
  · rw [Array.getElem?_eq_none (by rw [zs49_size]; exact hj), Array.getElem?_eq_none (by rw [cntC_size]; exact hj)]
theorem cntC_one (f : Nat → Int) (h : f 0 = 1) : zs49.setIfInBounds 0 (.int .i64 1) = cntC f 1 0 := by
  rw [cntC_zero f, cntC_set _ _ _ _ (by omega), ← h, cntC_next]
theorem cntC_cells (f : Nat → Int) (k : Nat) (a : Int) : (cntC f k a).all (·.oneCell') = true := by
  rw [Array.all_eq_true_iff_forall_mem]
  intro v hv
  simp [cntC] at hv
  obtain ⟨j, _, rfl⟩ := hv
  rfl

def roms (rs : List Ru) : List ByteArray := rs.map (·.2)
theorem roms_at {rs : List Ru} {k : Nat} {r : Ru} (h : rs[k]? = some r) : (roms rs)[k]? = some r.2 := by simp [roms, h]
theorem roms_len (rs : List Ru) : (roms rs).length = rs.length := by simp [roms]
theorem TabAt.below {w w' : World} {g : Nat} {t : TypeId} {cs : Array Value} (h : TabAt w g t cs) (hb : Below w.heap.size w w') : TabAt w' g t cs := (hb.block g h.lt).trans h
theorem TabAt.other {w : World} {g : Nat} {t : TypeId} {cs : Array Value} (h : TabAt w g t cs) {a : Addr} (ha : g ≠ a.block) (v : Value) : TabAt (w.setCell a v) g t cs := (Below.heap_setCell _ _ _ _ ha).trans h

set_option maxHeartbeats 1000000 in
set_option maxRecDepth 100000 in
theorem cCountRests (A : Option Addr) (n c : Nat) (rs : List Ru) (s : ByteArray) (w : World) (hb : n ≤ maxLen) (hs : s.size ≤ 48) (h : RulesAt w w.heap.size A n rs) :
    Calls Try.prog 86 #[.slice A n c, .string s] w fun e w' => e = .returned (.agg (cntC (cntW (roms rs) s.data.toList) (s.size + 1) 0)) ∧ Below w.heap.size w w' := by
  unfold maxLen at hb
  have HL := Lib.hid h.1
  have H := Lib.hid h
  clear h
  have hz := zero49
  have hne := zs49_ne
  obtain ⟨f, hf⟩ : ∃ f, f = cntW (roms rs) s.data.toList := ⟨_, rfl⟩
  rw [← hf]
  have HF := Lib.hid hf
  clear hf
  go_enter Try.func86, Try.ntmps86
  go_wp2
  clear hz hne
  have tab0 : TabAt ((w.alloc (.cells zs49 94)).alloc (.cells (zs49.setIfInBounds 0 (.int .i64 1)) 94)) w.heap.size 94 zs49 := (TabAt.new w _ _).alloc _
  have tab1 : TabAt ((w.alloc (.cells zs49 94)).alloc (.cells (zs49.setIfInBounds 0 (.int .i64 1)) 94)) (w.heap.size + 1) 94 (cntC f 1 0) := by
    have := TabAt.new (w.alloc (.cells zs49 94)) 94 (zs49.setIfInBounds 0 (.int .i64 1))
    rw [cntC_one f (by rw [HF.out]; exact cntW_zero _ _)] at this
    rw [cntC_one f (by rw [HF.out]; exact cntW_zero _ _)]
    simpa using this
  have bel0 : Below w.heap.size w ((w.alloc (.cells zs49 94)).alloc (.cells (zs49.setIfInBounds 0 (.int .i64 1)) 94)) := by go_grown
  have T0 := Lib.hid tab0
  have T1 := Lib.hid tab1
  clear tab0 tab1
  go_loopw [6] (fun i wr => ∃ k : Nat, 1 ≤ k ∧ k ≤ s.size + 1 ∧ i = .int .i64 k ∧ Hid (TabAt wr w.heap.size 94 zs49) ∧ Hid (TabAt wr (w.heap.size + 1) 94 (cntC f k 0)) ∧ Below w.heap.size w wr) (fun i _ => s.size + 1 - (intOf i).toNat)
  case atStart => exact ⟨1, Nat.le_refl _, by omega, rfl, T0, T1, bel0⟩
  case round =>
    obtain ⟨k, hk1, hk, rfl, HT0, HT1, hbw⟩ := hrel
    clear T0 T1 bel0
    obtain ⟨wo, rfl⟩ : ∃ wo : World, wo = wr := ⟨_, rfl⟩
    by_cases hlt : k ≤ s.size
    · obtain ⟨a, ha⟩ : ∃ a, s.size - k = a := ⟨_, rfl⟩
      have hsub : (s.size : Int) - (k : Int) = (a : Int) := by omega
      have hal : a ≤ s.size := by omega
      have ht1 : (s.extract a s.size).data.toList = restL s.data.toList k := by rw [ext_drop]; unfold restL; rw [size_toL, ha]
      have ht2 : (s.extract a s.size).size = k := by rw [ext_len _ _ _ (Nat.le_refl _)]; omega
      obtain ⟨t, ht⟩ : ∃ t, t = s.extract a s.size := ⟨_, rfl⟩
      have HTT := Lib.hid ht
      rw [← ht] at ht1 ht2
      have HTL := Lib.hid ht1
      have HTS := Lib.hid ht2
      clear ht ht1 ht2
      go_wp2
      rw [← HTT.out]
      have HA0 : Hid (TabAt wo (w.heap.size + 1) 94 (cntC f k (accW (roms rs) s.data.toList k 0))) := HT1
      go_loopw [27] (fun i wr => ∃ j : Nat, j ≤ n ∧ i = .int .i64 j ∧ Hid (TabAt wr w.heap.size 94 zs49) ∧ Hid (TabAt wr (w.heap.size + 1) 94 (cntC f k (accW (roms rs) s.data.toList k j))) ∧ Below w.heap.size w wr) (fun i _ => n - (intOf i).toNat)
      case atStart => exact ⟨0, Nat.zero_le _, rfl, HT0, HA0, hbw⟩
      case round =>
        obtain ⟨j, hj, rfl, HT0, HT1, hbw⟩ := hrel
        clear HA0
        by_cases hlt2 : j < n
        · obtain ⟨q, hq⟩ : ∃ q, rs[j]? = some q := ⟨rs[j]'(by have := HL.out; omega), List.getElem?_eq_getElem _⟩
          obtain ⟨b, o, rfl, hbl, A1, n1, c1, k0, k1, k2, k3, k4⟩ := (H.out.below hbw (Nat.le_refl _)).row hq
          have hws := hbw.size
          have B1 := alloc_below wr (.cells #[.slice A1 n1 c1, .string q.2] 35)
          have P1 := PairAt.new wr (.slice A1 n1 c1) (.string q.2) 35
          have CC := Lib.hid (fun W => cCutFrom A1 n1 c1 t q.2 W (by unfold maxLen; have := HTS.out; omega) k4)
          have HQ := Lib.hid (roms_at hq)
          have HB := Lib.hid (hbw.trans (B1.mono hws))
          have HU0 := Lib.hid (HT0.out.below B1)
          have HU1 := Lib.hid (HT1.out.below B1)
          clear hq k2 k3 k4 hbw B1 hws HT0 HT1
          go_wp2_with fail
          refine (CC.out _).mono ?_
          rintro e w1 ⟨hb1, hcase⟩
          have HV0 := Lib.hid (HU0.out.below hb1)
          have HV1 := Lib.hid (HU1.out.below hb1)
          have HB1 := Lib.hid (HB.out.trans (hb1.mono HB.out.size))
          clear HU0 HU1 HB hb1 P1 k0 k1
          rcases hcase with ⟨hfit, rfl⟩ | ⟨hfit, u, rfl⟩
          · rw [HTL.out] at hfit
            have hle := fit_le hfit
            rw [restL_len (by rw [size_toL]; exact hlt)] at hle
            obtain ⟨m, hm⟩ : ∃ m, (t.extract q.2.size t.size).size = m := ⟨_, rfl⟩
            have hmk : m = k - q.2.size := by rw [← hm, ext_len _ _ _ (Nat.le_refl _), HTS.out]
            have HX := Lib.hid (accW_yes HQ.out (by rw [size_toL]; exact hlt) hfit)
            rw [← hmk] at HX
            have b1 := accW_bd (roms rs) s.data.toList k j
            have b2 := cntW_bd (roms rs) s.data.toList m
            obtain ⟨acc, hacc⟩ : ∃ acc, acc = accW (roms rs) s.data.toList k j := ⟨_, rfl⟩
            rw [← hacc] at HV1 HX b1
            rw [← HF.out] at HX b2
            have c1 : w1.cell? ⟨w.heap.size + 1, k, none⟩ = some (.int .i64 acc) := (HV1.out.cell _).trans (cntC_at (by omega))
            have c2 : w1.cell? ⟨w.heap.size + 1, m, none⟩ = some (.int .i64 (f m)) := (HV1.out.cell _).trans (cntC_lt (by omega) (by omega))
            have f1 := HV1.out.frozen k
            have e1 : m < 49 := by omega
            have e2 : k < 49 := by omega
            clear hacc hfit hle hmk
            rcases Int.lt_or_le 1000000000001 (acc + f m) with hmx | hmx
            · go_wp2
              go_region
              go_wp2
              go_roundw
              case rel =>
                refine ⟨j + 1, by omega, by go_num, Lib.hid ((HV0.out.dr 1).other (by simp) _), Lib.hid ?_, HB1.out.drew.setCell (by simp) _⟩
                have := (HV1.out.dr 1).set k (.int .i64 (1000000000001))
                rw [cntC_set _ _ _ _ e2] at this
                rw [HX.out]
                rw [show min (1000000000001 : Int) (acc + f m) = 1000000000001 from by omega]
                exact this
              case measure => simp [intOf]; omega
            · go_wp2
              go_region
              go_wp2
              go_roundw
              case rel =>
                refine ⟨j + 1, by omega, by go_num, Lib.hid ((HV0.out.dr 1).other (by simp) _), Lib.hid ?_, HB1.out.drew.setCell (by simp) _⟩
                have := (HV1.out.dr 1).set k (.int .i64 (acc + f m))
                rw [cntC_set _ _ _ _ e2] at this
                rw [HX.out]
                rw [show min (1000000000001 : Int) (acc + f m) = acc + f m from by omega]
                exact this
              case measure => simp [intOf]; omega
          · rw [HTL.out] at hfit
            have HX := Lib.hid (accW_no HQ.out hfit)
            rw [← HX.out] at HV1
            clear hfit
            go_wp2
            go_roundw
            case rel => exact ⟨j + 1, by omega, by go_num, HV0, HV1, HB1.out⟩
            case measure => simp [intOf]; omega
        · have hjn : j = n := by omega
          have HX : Hid (accW (roms rs) s.data.toList k j = f k) := Lib.hid (by
            rw [HF.out]; exact accW_end (by rw [roms_len, ← HL.out]; omega) (by omega) (by rw [size_toL]; exact hlt))
          have HT1' := HT1.out
          rw [HX.out, cntC_next] at HT1'
          have HT2 := Lib.hid HT1'
          clear hjn HT1' HT1
          go_wp2
          go_roundw
          case rel => exact ⟨k + 1, by omega, by omega, by go_num, HT0, HT2, hbw⟩
          case measure => simp [intOf]; omega
    · obtain rfl : k = s.size + 1 := by omega
      have hl := HT1.out
      have hr := HT0.out
      have hcs := cntC_size f (s.size + 1) 0
      have hz := size49
      go_wp2_with (first
        | (refine wpList_load_row rfl _ _ rfl (w.heap.size + 1) rfl 94 _ (0, 0) _ hl Try.underlying94 rfl (hz.trans (by rw [hcs])) ?_)
        | (refine wpList_store_row rfl _ _ _ rfl w.heap.size _ rfl rfl 94 _ hr (hz.trans (by rw [hcs])) (by rw [zs49_size, hcs]) (cntC_cells _ _ _) ?_))
      have hld : (loadVar 94 ⟨w.heap.size, 0, none⟩).run Try.prog (wo.setRow w.heap.size (cntC f (s.size + 1) 0)) = .ok (.agg (cntC f (s.size + 1) 0)) (wo.setRow w.heap.size (cntC f (s.size + 1) 0)) :=
        run_loadVar_row _ w.heap.size 94 94 _ (0, 0) _ (setRow_heap wo w.heap.size zs49 _ _ _ hr) Try.underlying94 rfl (hz.trans (by rw [hcs]))
      refine bodyPost_ret (v := .agg (cntC f (s.size + 1) 0)) ?_ rfl ⟨rfl, below_setRow hbw (Nat.le_refl _) _⟩
      simp [results, Try.results86, asAddr, Act.put, hld]
end Go.Proofs.Ytnfdbpfegmodcaa
