/-
  The contract of impl.LettersInCommon: the last entry of the table of letters in common.
-/
import Derived.Test.YtdbbolnmcbhflaaLcsSpec
import Derived.StillTailTactics
namespace Go.Proofs.Ytdbbolnmcbhflaa
set_option linter.unusedVariables false
open Go.RowKit

/-- The table's 17 times 17 cells, all zero. -/
def zs17 : Array Value := Array.replicate 289 (.int .i64 0)
theorem zs17_size : zs17.size = 289 := by simp [zs17]
theorem zs17_ne : ¬ zs17 = #[] := by intro h; have := zs17_size; rw [h] at this; simp at this
theorem zs17_at (i : Nat) (h : i < 289) : zs17[i]? = some (.int .i64 0) := by simp [zs17, h]
theorem zero17 (w : World) : (zeroValue 46).run Try.prog w = .ok (.agg zs17) w := by kernel_rfl

theorem cLcs_impl_no (a b : ByteArray) (w : World) (ha : a.size ≤ maxLen) (hb : b.size ≤ maxLen) (h : twoE a b = false) :
    Calls Try.prog 9 #[.string a, .string b] w fun e w' => e = .returned (.tuple #[.int .i64 0, .int .i64 1]) ∧ Below w.heap.size w w' := by
  have H := Lib.hid h
  clear h
  go_enter Try.func9, Try.ntmps9
  go_wp2_with fail
  refine (cAreWords2 a b _ ha hb).mono ?_
  rintro e w' ⟨rfl, rfl⟩
  rw [H.out]
  go_wp2_with fail
  go_ret2
  exact ⟨rfl, by go_grown⟩

set_option maxHeartbeats 1000000 in
set_option maxRecDepth 100000 in
theorem cLcs_impl_yes (a b : ByteArray) (w : World) (ha : a.size ≤ maxLen) (hb : b.size ≤ maxLen) (ha16 : a.size ≤ 16) (hb16 : b.size ≤ 16) (h : twoE a b = true) :
    Calls Try.prog 9 #[.string a, .string b] w fun e w' => e = .returned (.tuple #[.int .i64 (lcs a b a.size b.size), .int .i64 0]) ∧ Below w.heap.size w w' := by
  have H := Lib.hid h
  clear h
  go_enter Try.func9, Try.ntmps9
  go_wp2_with fail
  refine (cAreWords2 a b _ ha hb).mono ?_
  rintro e w' ⟨rfl, rfl⟩
  rw [H.out]
  have hz := zero17
  have hne := zs17_ne
  go_wp2
  clear hz hne
  have tab0 : TabAt ((w.alloc (.cells #[.string a, .string b] 9)).alloc (.cells zs17 46)) (w.heap.size + 1) 46 zs17 := by
    have := TabAt.new (w.alloc (.cells #[.string a, .string b] 9)) 46 zs17
    simpa using this
  have ok0 : TabOk (lcs a b) (lcsD b.size 0 0) zs17 := ⟨zs17_size, fun i j hi hj hd => by
    rw [zs17_at _ (by omega)]
    rcases hd.2 with h1 | ⟨_, h1⟩ | h1
    · obtain rfl : i = 0 := by omega
      rfl
    · obtain rfl : j = 0 := by omega
      exact congrArg (fun x => some (Value.int .i64 x)) (lcsR_col _ i).symm
    · subst h1
      exact congrArg (fun x => some (Value.int .i64 x)) (lcsR_col _ i).symm⟩
  have bel0 : Below w.heap.size w ((w.alloc (.cells #[.string a, .string b] 9)).alloc (.cells zs17 46)) := by go_grown
  have T0 := Lib.hid tab0
  have O0 := Lib.hid ok0
  clear tab0 ok0
  go_loopw [16] (fun i wr => ∃ (k : Nat) (cs : Array Value), k ≤ a.size ∧ i = .int .i64 k ∧ Hid (TabAt wr (w.heap.size + 1) 46 cs) ∧ Hid (TabOk (lcs a b) (lcsD b.size k 0) cs) ∧ Below w.heap.size w wr) (fun i _ => a.size - (intOf i).toNat)
  case atStart => exact ⟨0, zs17, Nat.zero_le _, rfl, T0, O0, bel0⟩
  case round =>
    obtain ⟨k, cs, hk, rfl, HT, HO, hbw⟩ := hrel
    clear T0 O0 bel0
    obtain ⟨wo, rfl⟩ : ∃ wo : World, wo = wr := ⟨_, rfl⟩
    by_cases hlt : k < a.size
    · go_wp2
      go_loopw [21] (fun i wr => ∃ (m : Nat) (cs : Array Value), m ≤ b.size ∧ i = .int .i64 m ∧ Hid (TabAt wr (w.heap.size + 1) 46 cs) ∧ Hid (TabOk (lcs a b) (lcsD b.size k m) cs) ∧ Below w.heap.size w wr) (fun i _ => b.size - (intOf i).toNat)
      case atStart => exact ⟨0, cs, Nat.zero_le _, rfl, HT, HO, hbw⟩
      case round =>
        obtain ⟨m, cs, hm, rfl, HT, HO, hbw⟩ := hrel
        by_cases hlt2 : m < b.size
        · have c1 : wr.cell? ⟨w.heap.size + 1, k * 17 + m, none⟩ = some (.int .i64 (lcs a b k m)) := (HT.out.cell _).trans (HO.out.2 k m (by omega) (by omega) ⟨by omega, .inl (by omega)⟩)
          have c2 : wr.cell? ⟨w.heap.size + 1, k * 17 + (m + 1), none⟩ = some (.int .i64 (lcs a b k (m + 1))) := (HT.out.cell _).trans (HO.out.2 k (m + 1) (by omega) (by omega) ⟨by omega, .inl (by omega)⟩)
          have c3 : wr.cell? ⟨w.heap.size + 1, (k + 1) * 17 + m, none⟩ = some (.int .i64 (lcs a b (k + 1) m)) := (HT.out.cell _).trans (HO.out.2 (k + 1) m (by omega) (by omega) ⟨by omega, .inr (.inl ⟨rfl, by omega⟩)⟩)
          have b1 := lcs_bd a b k m
          have f1 := HT.out.frozen ((k + 1) * 17 + (m + 1))
          by_cases h3 : a[k] = b[m]
          · have hd := beq_yes a b k m hlt hlt2 h3
            have HV : Hid (lcs a b k m + 1 = lcs a b (k + 1) (m + 1)) := Lib.hid (lcsR_hit _ _ _ (same_yes a b k m hlt hlt2 h3)).symm
            clear h3
            go_wp2
            go_quiet (fail)
            go_wp2
            have HT2 := Lib.hid (HT.out.dr nq)
            have c1' : (wr.drewN nq).cell? ⟨w.heap.size + 1, k * 17 + m, none⟩ = some (.int .i64 (lcs a b k m)) := c1
            have f1' : (wr.drewN nq).frozen? ⟨w.heap.size + 1, (k + 1) * 17 + (m + 1), none⟩ = false := f1
            have hbw2 := below_dr hbw nq
            obtain ⟨v4, c4⟩ : ∃ v, (wr.drewN nq).cell? ⟨w.heap.size + 1, (k + 1) * 17 + (m + 1), none⟩ = some v := HT2.out.some (by rw [HO.out.1]; omega)
            clear c1 c2 c3 f1 hbw HT
            generalize wr.drewN nq = w2 at *
            go_region
            go_wp2
            go_roundw
            case rel => exact ⟨m + 1, cs.setIfInBounds ((k + 1) * 17 + (m + 1)) (.int .i64 (lcs a b k m + 1)), by omega, by go_num, Lib.hid (TabAt.set (w := w2.drew) HT2.out _ _), Lib.hid (HO.out.set (k + 1) (m + 1) (by omega) (by omega) _ (by have := HV.out; omega) (lcsD_step _ _ _ hlt2)), hbw2.drew.setCell (by simp) _⟩
            case measure => simp [intOf]; omega
          · have hd := beq_no a b k m hlt hlt2 h3
            have HV : Hid (max (lcs a b k (m + 1)) (lcs a b (k + 1) m) = lcs a b (k + 1) (m + 1)) := Lib.hid (lcsR_miss _ _ _ (same_no a b k m hlt hlt2 h3)).symm
            clear h3
            rcases Int.lt_or_le (lcs a b k (m + 1)) (lcs a b (k + 1) m) with hmx | hmx
            · skip
              go_wp2
              go_quiet (fail)
              go_wp2
              have HT2 := Lib.hid (HT.out.dr nq)
              have c2' : (wr.drewN nq).cell? ⟨w.heap.size + 1, k * 17 + (m + 1), none⟩ = some (.int .i64 (lcs a b k (m + 1))) := c2
              have c3' : (wr.drewN nq).cell? ⟨w.heap.size + 1, (k + 1) * 17 + m, none⟩ = some (.int .i64 (lcs a b (k + 1) m)) := c3
              have f1' : (wr.drewN nq).frozen? ⟨w.heap.size + 1, (k + 1) * 17 + (m + 1), none⟩ = false := f1
              have hbw2 := below_dr hbw nq
              obtain ⟨v4, c4⟩ : ∃ v, (wr.drewN nq).cell? ⟨w.heap.size + 1, (k + 1) * 17 + (m + 1), none⟩ = some v := HT2.out.some (by rw [HO.out.1]; omega)
              clear c1 c2 c3 f1 hbw HT
              generalize wr.drewN nq = w2 at *
              go_region
              go_wp2
              go_roundw
              case rel => exact ⟨m + 1, cs.setIfInBounds ((k + 1) * 17 + (m + 1)) (.int .i64 (lcs a b (k + 1) m)), by omega, by go_num, Lib.hid (TabAt.set (w := w2.drew) HT2.out _ _), Lib.hid (HO.out.set (k + 1) (m + 1) (by omega) (by omega) _ (by have := HV.out; omega) (lcsD_step _ _ _ hlt2)), hbw2.drew.setCell (by simp) _⟩
              case measure => simp [intOf]; omega
            · skip
              go_wp2
              go_quiet (fail)
              go_wp2
              have HT2 := Lib.hid (HT.out.dr nq)
              have c2' : (wr.drewN nq).cell? ⟨w.heap.size + 1, k * 17 + (m + 1), none⟩ = some (.int .i64 (lcs a b k (m + 1))) := c2
              have c3' : (wr.drewN nq).cell? ⟨w.heap.size + 1, (k + 1) * 17 + m, none⟩ = some (.int .i64 (lcs a b (k + 1) m)) := c3
              have f1' : (wr.drewN nq).frozen? ⟨w.heap.size + 1, (k + 1) * 17 + (m + 1), none⟩ = false := f1
              have hbw2 := below_dr hbw nq
              obtain ⟨v4, c4⟩ : ∃ v, (wr.drewN nq).cell? ⟨w.heap.size + 1, (k + 1) * 17 + (m + 1), none⟩ = some v := HT2.out.some (by rw [HO.out.1]; omega)
              clear c1 c2 c3 f1 hbw HT
              generalize wr.drewN nq = w2 at *
              go_region
              go_wp2
              go_roundw
              case rel => exact ⟨m + 1, cs.setIfInBounds ((k + 1) * 17 + (m + 1)) (.int .i64 (lcs a b k (m + 1))), by omega, by go_num, Lib.hid (TabAt.set (w := w2.drew) HT2.out _ _), Lib.hid (HO.out.set (k + 1) (m + 1) (by omega) (by omega) _ (by have := HV.out; omega) (lcsD_step _ _ _ hlt2)), hbw2.drew.setCell (by simp) _⟩
              case measure => simp [intOf]; omega
        · obtain rfl : m = b.size := by omega
          go_wp2
          go_roundw
          case rel => exact ⟨k + 1, cs, by omega, by go_num, HT, Lib.hid (HO.out.weak (lcsD_row _ _)), hbw⟩
          case measure => simp [intOf]; omega
    · obtain rfl : k = a.size := by omega
      have c1 : wo.cell? ⟨w.heap.size + 1, a.size * 17 + b.size, none⟩ = some (.int .i64 (lcs a b a.size b.size)) := (HT.out.cell _).trans (HO.out.2 a.size b.size (by omega) (by omega) ⟨by omega, .inl (by omega)⟩)
      go_wp2
      go_ret2
      exact ⟨rfl, hbw⟩
end Go.Proofs.Ytdbbolnmcbhflaa
