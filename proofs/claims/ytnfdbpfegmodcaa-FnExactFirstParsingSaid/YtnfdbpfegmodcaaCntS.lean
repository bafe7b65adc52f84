/-
  The contract of spec.l05Ways: the row of the numbers of parsings of the rests from each place on.
-/
import Derived.Test.YtnfdbpfegmodcaaCntI
import Derived.Test.YtnfdbpfegmodcaaUsedI
namespace Go.Proofs.Ytnfdbpfegmodcaa
set_option linter.unusedVariables false
open Go.RowKit

/-- The numbers of the rests from each place behind a on, a number at a, zeros ahead of it. -/
def waysV (f : Nat → Int) (n a : Nat) (acc : Int) : List Value := (List.range (n + 1)).map fun p => Value.int .i64 (if a < p then f (n - p) else if p = a then acc else 0)
theorem waysV_len (f : Nat → Int) (n a : Nat) (acc : Int) : (waysV f n a acc).length = n + 1 := by simp [waysV]
theorem waysV_get (f : Nat → Int) (n a : Nat) (acc : Int) (p : Nat) (h : p ≤ n) : (waysV f n a acc)[p]? = some (.int .i64 (if a < p then f (n - p) else if p = a then acc else 0)) := by
  have : p < n + 1 := by omega
  simp [waysV, this]
theorem waysV_gt {f : Nat → Int} {n a : Nat} {acc : Int} {p : Nat} (h : p ≤ n) (hp : a < p) : (waysV f n a acc)[p]? = some (.int .i64 (f (n - p))) := by rw [waysV_get _ _ _ _ _ h, if_pos hp]
theorem waysV_at {f : Nat → Int} {n a : Nat} {acc : Int} (h : a ≤ n) : (waysV f n a acc)[a]? = some (.int .i64 acc) := by rw [waysV_get _ _ _ _ _ h, if_neg (by omega), if_pos rfl]
theorem waysV_set (f : Nat → Int) (n a : Nat) (x y : Int) (h : a ≤ n) : (waysV f n a x).set a (.int .i64 y) = waysV f n a y := by
  apply List.ext_getElem?
  intro p
  rcases Nat.lt_or_ge n p with hp | hp
  · rw [List.getElem?_eq_none (by rw [List.length_set, waysV_len]; omega), List.getElem?_eq_none (by rw [waysV_len]; omega)]
  · by_cases he : a = p
    · subst he
      rw [List.getElem?_set_self (by rw [waysV_len]; omega), waysV_at h]
    · rw [List.getElem?_set_ne he, waysV_get _ _ _ _ _ hp, waysV_get _ _ _ _ _ hp, if_neg (show ¬ p = a from fun e => he e.symm), if_neg (show ¬ p = a from fun e => he e.symm)]
theorem waysV_open (f : Nat → Int) (n a : Nat) (h : a < n) : waysV f n (a + 1) (f (n - (a + 1))) = waysV f n a 0 := by
  unfold waysV
  apply List.map_congr_left
  intro p _
  congr 1
  by_cases h1 : a + 1 < p
  · rw [if_pos h1, if_pos (by omega)]
  · rw [if_neg h1]
    by_cases h2 : p = a + 1
    · subst h2; rw [if_pos rfl, if_pos (by omega)]
    · rw [if_neg h2, if_neg (by omega)]
      split <;> rfl
theorem waysV_start (f : Nat → Int) (n : Nat) (h : f 0 = 1) : (madeCells #[Value.int .i64 0] (n + 1)).toList.set n (.int .i64 1) = waysV f n n (f (n - n)) := by
  have : (madeCells #[Value.int .i64 0] (n + 1)).toList = waysV f n n 0 := by
    apply List.ext_getElem?
    intro p
    rcases Nat.lt_or_ge n p with hp | hp
    · rw [List.getElem?_eq_none (by simp [madeCells]; omega), List.getElem?_eq_none (by rw [waysV_len]; omega)]
    · rw [waysV_get _ _ _ _ _ hp, if_neg (by omega)]
      have hp2 : p < n + 1 := by omega
      simp [madeCells, hp2, Nat.mod_one]
  rw [this, waysV_set _ _ _ _ _ (Nat.le_refl _), Nat.sub_self, h]

/-- The row of the numbers comes back, new. -/
def WaysPost (f : Nat → Int) (n : Nat) (w : World) (e : Ending) (w' : World) : Prop :=
  e = .returned (.slice (some ⟨w.heap.size, 0, none⟩) (n + 1) (n + 1)) ∧ w'.ownsRow w.heap.size 2 1 (.slice (some ⟨w.heap.size, 0, none⟩) (n + 1) (n + 1)) (n + 1) (waysV f n 0 (f n)) ∧ Below w.heap.size w w'

set_option maxHeartbeats 2000000 in
set_option maxRecDepth 100000 in
theorem cWays (A : Option Addr) (n c : Nat) (rs : List Ru) (s : ByteArray) (w : World) (hb : n ≤ maxLen) (hs : s.size ≤ 48) (h : RulesAt w w.heap.size A n rs) :
    Calls Try.prog 88 #[.slice A n c, .string s] w (WaysPost (cntW (roms rs) s.data.toList) s.size w) := by
  obtain ⟨i0, hi0, hz0, hz1, hz2⟩ := info_parts info_i64
  unfold maxLen at hb
  have HL := Lib.hid h.1
  have H := Lib.hid h
  clear h
  obtain ⟨f, hf⟩ : ∃ f, f = cntW (roms rs) s.data.toList := ⟨_, rfl⟩
  rw [← hf]
  have HF := Lib.hid hf
  clear hf
  go_enter Try.func88, Try.ntmps88
  go_wp2_with (at_make; refine wpList_make_full _ rfl _ _ 25 rfl w.heap.size 2 i0 (.int .i64 0) 1 Try.underlying25 hi0 hz0 hz1 _ _ _ _ (s.size + 1) rfl rfl (by simp) (by simp) ?b2 ?b3 (Nat.le_refl _) ?_)
  case b2 => rw [hz2]; omega
  case b3 => unfold maxLen; omega
  intro w0 hown0 hgrow0
  have hb0 : Below w.heap.size w w0 := (Below.refl _ _).grown hgrow0 (Nat.le_refl _) (fun k h => by cases h)
  have f4 := hown0.frozenAt s.size
  obtain ⟨v4, c4⟩ : ∃ v, w0.cell? ⟨w.heap.size, s.size, none⟩ = some v := by
    have hl : s.size < (madeCells #[Value.int .i64 0] (s.size + 1)).toList.length := by simp [madeCells]
    exact ⟨_, (hown0.cellAt s.size (by omega)).trans (List.getElem?_eq_getElem hl)⟩
  have hst := (hown0.stored s.size (.int .i64 1)).1
  rw [waysV_start f s.size (by rw [HF.out]; exact cntW_zero _ _)] at hst
  have hbw1 : Below w.heap.size w (w0.setCell ⟨w.heap.size, s.size, none⟩ (.int .i64 1)) := hb0.setCell (Nat.le_refl _) _
  have ST := Lib.hid hst
  have BW := Lib.hid hbw1
  clear hst hbw1 hown0 hgrow0 hb0
  go_wp2
  clear f4 c4
  go_loopw [6] (fun i wr => ∃ t : Nat, t ≤ s.size ∧ i = .int .i64 ((t : Int) - 1) ∧ Hid (wr.ownsRow w.heap.size 2 1 (.slice (some ⟨w.heap.size, 0, none⟩) (s.size + 1) (s.size + 1)) (s.size + 1) (waysV f s.size t (f (s.size - t)))) ∧ Hid (Below w.heap.size w wr)) (fun i _ => (intOf i + 1).toNat)
  case atStart => exact ⟨s.size, Nat.le_refl _, rfl, ST, BW⟩
  case round =>
    obtain ⟨t, ht, rfl, HO, HB⟩ := hrel
    clear ST BW
    obtain ⟨wo, rfl⟩ : ∃ wo : World, wo = wr := ⟨_, rfl⟩
    by_cases hlt : 0 < t
    · obtain ⟨a, rfl⟩ : ∃ a, t = a + 1 := ⟨t - 1, by omega⟩
      have hai : ((a + 1 : Nat) : Int) - 1 = (a : Int) := by omega
      rw [hai]
      have HAI := Lib.hid hai
      have ho := HO.out
      rw [waysV_open f s.size a (by omega)] at ho
      obtain ⟨kk, hkk⟩ : ∃ kk, kk = s.size - a := ⟨_, rfl⟩
      have HK := Lib.hid hkk
      have HO0 : Hid (wo.ownsRow w.heap.size 2 1 (.slice (some ⟨w.heap.size, 0, none⟩) (s.size + 1) (s.size + 1)) (s.size + 1) (waysV f s.size a (accW (roms rs) s.data.toList kk 0))) := Lib.hid ho
      clear hai ho HO hkk
      go_wp2
      go_loopw [7] (fun i wr => ∃ j : Nat, j ≤ n ∧ i = .int .i64 j ∧ Hid (wr.ownsRow w.heap.size 2 1 (.slice (some ⟨w.heap.size, 0, none⟩) (s.size + 1) (s.size + 1)) (s.size + 1) (waysV f s.size a (accW (roms rs) s.data.toList kk j))) ∧ Hid (Below w.heap.size w wr)) (fun i _ => n - (intOf i).toNat)
      case atStart => exact ⟨0, Nat.zero_le _, rfl, HO0, HB⟩
      case round =>
        clear HO0 HB
        obtain ⟨j, hj, rfl, HO, HB⟩ := hrel
        by_cases hlt2 : j < n
        · obtain ⟨q, hq⟩ : ∃ q, rs[j]? = some q := ⟨rs[j]'(by have := HL.out; omega), List.getElem?_eq_getElem _⟩
          obtain ⟨b, o, rfl, hbl, A1, n1, c1, k0, k1, k2, k3, k4⟩ := (H.out.below HB.out (Nat.le_refl _)).row hq
          have hws := HB.out.size
          have e1 : (0 : Int) ≤ (j : Int) := Int.natCast_nonneg _
          have e2 : (j : Int) < (n : Int) := by omega
          have CF := Lib.hid (fun W => cFits A1 n1 c1 a s q.2 W (by unfold maxLen; omega) k4 (by omega))
          have HQ := Lib.hid (roms_at hq)
          have hbl2 : b < wr.heap.size := Nat.lt_of_lt_of_le hbl hws
          have HK1 := Lib.hid k1
          clear hq k2 k3 k4 hws k1
          have k1 := HK1.out
          go_wp2_with fail
          refine (CF.out _).mono ?_
          rintro e w1 ⟨rfl, hb1⟩
          have k1' := (hb1.cell (p := ⟨b, o + j * 2 + 1, none⟩) hbl2).trans HK1.out
          have HO1 : Hid (w1.ownsRow w.heap.size 2 1 (.slice (some ⟨w.heap.size, 0, none⟩) (s.size + 1) (s.size + 1)) (s.size + 1) (waysV f s.size a (accW (roms rs) s.data.toList kk j))) := Lib.hid (ownsRow_keep HO.out hb1)
          have HB1 := Lib.hid (HB.out.trans (hb1.mono HB.out.size))
          have hrl : s.data.toList.drop a = restL s.data.toList kk := by unfold restL; rw [size_toL, HK.out]; congr 1; omega
          rw [hrl]
          clear hb1 CF hbl2 HO HB k0 k1 HK1 hrl
          cases hfit : fitR q.2 (restL s.data.toList kk)
          · have HX := Lib.hid (accW_no HQ.out hfit)
            rw [← HX.out] at HO1
            clear hfit
            go_wp2
            go_roundw
            case rel => exact ⟨j + 1, by omega, by go_num, HO1, HB1⟩
            case measure => simp [intOf]; omega
          · have hle := fit_le hfit
            rw [restL_len (by rw [size_toL]; have := HK.out; omega)] at hle
            have HX := Lib.hid (accW_yes HQ.out (by rw [size_toL]; have := HK.out; omega) hfit)
            have hm : kk - q.2.size = s.size - (a + q.2.size) := by have := HK.out; omega
            have hk := HK.out
            rw [hm] at HX
            have b1 := accW_bd (roms rs) s.data.toList kk j
            have b2 := cntW_bd (roms rs) s.data.toList (s.size - (a + q.2.size))
            obtain ⟨acc, hacc⟩ : ∃ acc, acc = accW (roms rs) s.data.toList kk j := ⟨_, rfl⟩
            rw [← hacc] at HO1 HX b1
            rw [← HF.out] at HX b2
            have c1 : w1.cell? ⟨w.heap.size, a, none⟩ = some (.int .i64 acc) := (HO1.out.cellAt a (by omega)).trans (waysV_at (by omega))
            have c2 : w1.cell? ⟨w.heap.size, a + q.2.size, none⟩ = some (.int .i64 (f (s.size - (a + q.2.size)))) := (HO1.out.cellAt (a + q.2.size) (by omega)).trans (waysV_gt (by omega) (by omega))
            have f1 := HO1.out.frozenAt a
            obtain ⟨fm, hfm⟩ : ∃ fm, fm = f (s.size - (a + q.2.size)) := ⟨_, rfl⟩
            rw [← hfm] at HX b2 c2
            have e3 : (a : Int) + (q.2.size : Int) < (s.size : Int) + 1 := by omega
            have e4 : (a : Int) < (s.size : Int) + 1 := by omega
            have e5 : a + q.2.size < s.size + 1 := by omega
            clear hacc hfit hle hm hfm hk
            rcases Int.lt_or_le (acc + fm) 1000000000001 with hmx | hmx
            · go_wp2
              go_region
              go_wp2
              go_roundw
              case rel =>
                refine ⟨j + 1, by omega, by go_num, Lib.hid ?_, Lib.hid (HB1.out.drew.setCell (Nat.le_refl _) _)⟩
                rw [HX.out, show min (1000000000001 : Int) (acc + fm) = acc + fm from by omega, ← waysV_set f s.size a acc _ (by omega)]
                exact (HO1.out.stored a (.int .i64 (acc + fm))).1
              case measure => simp [intOf]; omega
            · go_wp2
              go_region
              go_wp2
              go_roundw
              case rel =>
                refine ⟨j + 1, by omega, by go_num, Lib.hid ?_, Lib.hid (HB1.out.drew.setCell (Nat.le_refl _) _)⟩
                rw [HX.out, show min (1000000000001 : Int) (acc + fm) = 1000000000001 from by omega, ← waysV_set f s.size a acc _ (by omega)]
                exact (HO1.out.stored a (.int .i64 1000000000001)).1
              case measure => simp [intOf]; omega
        · have HX : Hid (accW (roms rs) s.data.toList kk j = f (s.size - a)) := Lib.hid (by
            rw [HF.out, ← HK.out]; exact accW_end (by rw [roms_len, ← HL.out]; omega) (by have := HK.out; omega) (by rw [size_toL]; have := HK.out; omega))
          rw [HX.out] at HO
          clear HX
          go_wp2
          go_roundw
          case rel => exact ⟨a, by omega, by go_num, HO, HB⟩
          case measure => first | (simp [intOf]; done) | (simp [intOf]; omega)
    · obtain rfl : t = 0 := by omega
      rw [Nat.sub_zero] at HO
      go_wp2
      go_ret
      exact ⟨rfl, HO.out, HB.out⟩
end Go.Proofs.Ytnfdbpfegmodcaa
