/-
  The contract of impl.EditDistance: the last entry of the table of distances.
-/
import Derived.Test.YtdbbolnmcbhflaaLeast
import Derived.Deep.RegionHeld3
import Derived.IntWalk
namespace Go.Proofs.Ytdbbolnmcbhflaa
set_option linter.unusedVariables false
open Go.RowKit

theorem new_two0 (w : World) (n : Nat) (u v : Value) (t : TypeId) : ((w.drewN n).alloc (.cells #[u, v] t)).cell? ⟨w.heap.size, 0, none⟩ = some u := by
  show ((w.drewN n).alloc (.cells #[u, v] t)).cell? ⟨(w.drewN n).heap.size, 0, none⟩ = some u
  rw [World.cell?_alloc_at _ _ _ _ rfl]; rfl
theorem new_two1 (w : World) (n : Nat) (u v : Value) (t : TypeId) : ((w.drewN n).alloc (.cells #[u, v] t)).cell? ⟨w.heap.size, 1, none⟩ = some v := by
  show ((w.drewN n).alloc (.cells #[u, v] t)).cell? ⟨(w.drewN n).heap.size, 1, none⟩ = some v
  rw [World.cell?_alloc_at _ _ _ _ rfl]; rfl

theorem cEd_impl_no (a b : ByteArray) (w : World) (ha : a.size ≤ maxLen) (hb : b.size ≤ maxLen) (h : twoE a b = false) :
    Calls Try.prog 7 #[.string a, .string b] w fun e w' => e = .returned (.tuple #[.int .i64 0, .int .i64 1]) ∧ Below w.heap.size w w' := by
  have H := Lib.hid h
  clear h
  go_enter Try.func7, Try.ntmps7
  go_wp2_with fail
  refine (cAreWords2 a b _ ha hb).mono ?_
  rintro e w' ⟨rfl, rfl⟩
  rw [H.out]
  go_wp2_with fail
  go_ret2
  exact ⟨rfl, by go_grown⟩

set_option maxHeartbeats 2000000 in
set_option maxRecDepth 100000 in
theorem cEd_impl_yes (a b : ByteArray) (w : World) (ha : a.size ≤ maxLen) (hb : b.size ≤ maxLen) (ha16 : a.size ≤ 16) (hb16 : b.size ≤ 16) (h : twoE a b = true) :
    Calls Try.prog 7 #[.string a, .string b] w fun e w' => e = .returned (.tuple #[.int .i64 (dis a b a.size b.size), .int .i64 0]) ∧ Below w.heap.size w w' := by
  have H := Lib.hid h
  clear h
  go_enter Try.func7, Try.ntmps7
  go_wp2_with fail
  refine (cAreWords2 a b _ ha hb).mono ?_
  rintro e w' ⟨rfl, rfl⟩
  rw [H.out]
  have hz := zero17
  have hne := zs17_ne
  go_wp2
  clear hz hne
  have tab0 : TabAt ((w.alloc (.cells #[.string a, .string b] 9)).alloc (.cells zs17 46)) (w.heap.size + 1) 46 zs17 := by
    have := TabAt.new (w.alloc (.cells #[.string a, .string b] 9)) 46 zs17
    simpa using this
  have T0 := Lib.hid tab0
  have O0 : Hid (TabOk (dis a b) (fun i j => j = 0 ∧ i < 0) zs17) := Lib.hid ⟨zs17_size, fun i j hi hj hd => absurd hd.2 (by omega)⟩
  have bel0 : Below w.heap.size w ((w.alloc (.cells #[.string a, .string b] 9)).alloc (.cells zs17 46)) := by go_grown
  clear tab0
  go_loopw [20] (fun i wr => ∃ (k : Nat) (cs : Array Value), k ≤ a.size + 1 ∧ i = .int .i64 k ∧ Hid (TabAt wr (w.heap.size + 1) 46 cs) ∧ Hid (TabOk (dis a b) (fun i j => j = 0 ∧ i < k) cs) ∧ Below w.heap.size w wr) (fun i _ => a.size + 1 - (intOf i).toNat)
  case atStart => exact ⟨0, zs17, Nat.zero_le _, rfl, T0, O0, bel0⟩
  case round =>
    obtain ⟨k, cs, hk, rfl, HT, HO, hbw⟩ := hrel
    clear T0 O0 bel0
    by_cases hlt : k < a.size + 1
    · obtain ⟨v4, c4⟩ : ∃ v, wr.cell? ⟨w.heap.size + 1, k * 17, none⟩ = some v := HT.out.some (by rw [HO.out.1]; omega)
      have f4 := HT.out.frozen (k * 17)
      go_wp2
      go_roundw
      case rel =>
        exact ⟨k + 1, cs.setIfInBounds (k * 17 + 0) (.int .i64 k), by omega, by go_num, Lib.hid (HT.out.set _ _), Lib.hid (HO.out.set k 0 (by omega) (by omega) _ (disR_col _ k).symm (by intro i j _ _ h; omega)), hbw.setCell (by simp) _⟩
      case measure => simp [intOf]; omega
    · have HK := Lib.hid (show k = a.size + 1 by omega)
      obtain ⟨wo, rfl⟩ : ∃ wo : World, wo = wr := ⟨_, rfl⟩
      go_wp2
      go_loopw [31] (fun i wr => ∃ (k : Nat) (cs : Array Value), k ≤ b.size + 1 ∧ i = .int .i64 k ∧ Hid (TabAt wr (w.heap.size + 1) 46 cs) ∧ Hid (TabOk (dis a b) (fun i j => (j = 0 ∧ i ≤ a.size) ∨ (i = 0 ∧ j < k)) cs) ∧ Below w.heap.size w wr) (fun i _ => b.size + 1 - (intOf i).toNat)
      case atStart => exact ⟨0, cs, Nat.zero_le _, rfl, HT, Lib.hid (HO.out.weak (by intro i j _ _ h; have := HK.out; omega)), hbw⟩
      case round =>
        clear HT HO hbw
        obtain ⟨k, cs, hk, rfl, HT, HO, hbw⟩ := hrel
        by_cases hlt : k < b.size + 1
        · obtain ⟨v4, c4⟩ : ∃ v, wr.cell? ⟨w.heap.size + 1, k, none⟩ = some v := HT.out.some (by rw [HO.out.1]; omega)
          have f4 := HT.out.frozen k
          go_wp2
          go_roundw
          case rel =>
            exact ⟨k + 1, cs.setIfInBounds (0 * 17 + k) (.int .i64 k), by omega, by go_num, Lib.hid (by rw [show 0 * 17 + k = k from by omega]; exact HT.out.set _ _), Lib.hid (HO.out.set 0 k (by omega) (by omega) _ (disR_zero _ k).symm (by intro i j _ _ h; omega)), hbw.setCell (by simp) _⟩
          case measure => simp [intOf]; omega
        · have HL := Lib.hid (show k = b.size + 1 by omega)
          go_wp2
          obtain ⟨wp, rfl⟩ : ∃ wp : World, wp = wr := ⟨_, rfl⟩
          go_loopw [41] (fun i wr => ∃ (k : Nat) (cs : Array Value), k ≤ a.size ∧ i = .int .i64 k ∧ Hid (TabAt wr (w.heap.size + 1) 46 cs) ∧ Hid (TabOk (dis a b) (disD a.size b.size k 0) cs) ∧ Below w.heap.size w wr) (fun i _ => a.size - (intOf i).toNat)
          case atStart => exact ⟨0, cs, Nat.zero_le _, rfl, HT, Lib.hid (HO.out.weak (by intro i j _ _ h; have := HL.out; unfold disD at h; omega)), hbw⟩
          case round =>
            clear HT HO hbw
            obtain ⟨k, cs, hk, rfl, HT, HO, hbw⟩ := hrel
            obtain ⟨wq, rfl⟩ : ∃ wq : World, wq = wr := ⟨_, rfl⟩
            by_cases hlt : k < a.size
            · go_wp2
              go_loopw [46] (fun i wr => ∃ (m : Nat) (cs : Array Value), m ≤ b.size ∧ i = .int .i64 m ∧ Hid (TabAt wr (w.heap.size + 1) 46 cs) ∧ Hid (TabOk (dis a b) (disD a.size b.size k m) cs) ∧ Below w.heap.size w wr) (fun i _ => b.size - (intOf i).toNat)
              case atStart => exact ⟨0, cs, Nat.zero_le _, rfl, HT, HO, hbw⟩
              case round =>
                clear HT HO hbw
                obtain ⟨m, cs, hm, rfl, HT, HO, hbw⟩ := hrel
                by_cases hlt2 : m < b.size
                · have c1 : wr.cell? ⟨w.heap.size + 1, k * 17 + m, none⟩ = some (.int .i64 (dis a b k m)) := (HT.out.cell _).trans (HO.out.2 k m (by omega) (by omega) ⟨by omega, .inr ⟨by omega, .inl (by omega)⟩⟩)
                  have c2 : wr.cell? ⟨w.heap.size + 1, k * 17 + (m + 1), none⟩ = some (.int .i64 (dis a b k (m + 1))) := (HT.out.cell _).trans (HO.out.2 k (m + 1) (by omega) (by omega) ⟨by omega, .inr ⟨by omega, .inl (by omega)⟩⟩)
                  have c3 : wr.cell? ⟨w.heap.size + 1, (k + 1) * 17 + m, none⟩ = some (.int .i64 (dis a b (k + 1) m)) := (HT.out.cell _).trans (HO.out.2 (k + 1) m (by omega) (by omega) ⟨by omega, .inr ⟨by omega, .inr ⟨rfl, by omega⟩⟩⟩)
                  have b1 := dis_bd a b k m
                  have b2 := dis_bd a b k (m + 1)
                  have b3 := dis_bd a b (k + 1) m
                  have f1 := HT.out.frozen ((k + 1) * 17 + (m + 1))
                  obtain ⟨v4, c4⟩ : ∃ v, wr.cell? ⟨w.heap.size + 1, (k + 1) * 17 + (m + 1), none⟩ = some v := HT.out.some (by rw [HO.out.1]; omega)
                  have hl := HT.out.lt
                  by_cases h3 : a[k] = b[m]
                  · have hd := bne_yes a b k m hlt hlt2 h3
                    have HV : Hid (dis a b (k + 1) (m + 1) = min (dis a b k m) (min (dis a b k (m + 1) + 1) (dis a b (k + 1) m + 1))) := Lib.hid (by have h := disR_next (same a b) k m; rw [if_pos (same_yes a b k m hlt hlt2 h3)] at h; simpa [dis] using h)
                    clear h3
                    go_wp2
                    go_quiet (fail)
                    go_wp2
                    have i1 : (0 : Int) ≤ (k : Int) := Int.natCast_nonneg _
                    have i2 : (k : Int) < 17 := by omega
                    have i3 : (0 : Int) ≤ (m : Int) := Int.natCast_nonneg _
                    have i4 : (m : Int) < 17 := by omega
                    have i5 : (0 : Int) ≤ (k : Int) + 1 := by omega
                    have i6 : (k : Int) + 1 < 17 := by omega
                    have i7 : (0 : Int) ≤ (m : Int) + 1 := by omega
                    have i8 : (m : Int) + 1 < 17 := by omega
                    have s1 : IntKind.i64.wrap ((k : Int) + 1) = (k : Int) + 1 := IntWalk.i64_in _ (by omega)
                    have s2 : IntKind.i64.wrap ((m : Int) + 1) = (m : Int) + 1 := IntWalk.i64_in _ (by omega)
                    have s3 : IntKind.i64.wrap (dis a b k (m + 1) + 1) = dis a b k (m + 1) + 1 := IntWalk.i64_in _ (by omega)
                    have s4 : IntKind.i64.wrap (dis a b (k + 1) m + 1) = dis a b (k + 1) m + 1 := IntWalk.i64_in _ (by omega)
                    have t1 : ((k : Int) + 1).toNat = k + 1 := by omega
                    have t2 : ((m : Int) + 1).toNat = m + 1 := by omega
                    have c4' : ∀ n o, ((wr.drewN n).alloc o).cell? ⟨w.heap.size + 1, (k + 1) * 17 + (m + 1), none⟩ = some v4 := fun n o => (World.cell?_alloc_lt (wr.drewN n) o _ hl).trans c4
                    have f4' : ∀ n cs t, ((wr.drewN n).alloc (.cells cs t)).frozen? ⟨w.heap.size + 1, (k + 1) * 17 + (m + 1), none⟩ = false := fun n cs t => (frozen?_alloc_cells (wr.drewN n) cs t _).trans f1
                    have c2' : ∀ n o u, (((wr.drewN n).alloc o).setCell ⟨w.heap.size + 1, (k + 1) * 17 + (m + 1), none⟩ u).cell? ⟨w.heap.size + 1, k * 17 + (m + 1), none⟩ = some (.int .i64 (dis a b k (m + 1))) := fun n o u => (World.cell?_setCell_other _ _ _ u (by intro e; injection e with _ e2 _; omega)).trans ((World.cell?_alloc_lt (wr.drewN n) o _ hl).trans c2)
                    have c3' : ∀ n o u, (((wr.drewN n).alloc o).setCell ⟨w.heap.size + 1, (k + 1) * 17 + (m + 1), none⟩ u).cell? ⟨w.heap.size + 1, (k + 1) * 17 + m, none⟩ = some (.int .i64 (dis a b (k + 1) m)) := fun n o u => (World.cell?_setCell_other _ _ _ u (by intro e; injection e with _ e2 _; omega)).trans ((World.cell?_alloc_lt (wr.drewN n) o _ hl).trans c3)
                    go_region_held3 (fun w' => w'.cell? ⟨w.heap.size + 1, k * 17 + (m + 1), none⟩ = some (.int .i64 (dis a b k (m + 1))) ∧ w'.cell? ⟨w.heap.size + 1, (k + 1) * 17 + m, none⟩ = some (.int .i64 (dis a b (k + 1) m))) (first | exact ⟨c2' _ _ _, c3' _ _ _⟩ | (go_keep; done)) ((go_at_call 29; go_loud (refine (cLeast2 _ _ _ _ _ _ _ HV.out (new_two0 _ _ _ _ _) (new_two1 _ _ _ _ _)).mono ?_; rintro e w' ⟨rfl, rfl⟩)))
                    go_wp2
                    go_roundw
                    case rel => exact ⟨m + 1, cs.setIfInBounds ((k + 1) * 17 + (m + 1)) (.int .i64 (dis a b (k + 1) (m + 1))), by omega, by go_num, Lib.hid (((HT.out.dr _).alloc _).set _ _), Lib.hid (HO.out.set (k + 1) (m + 1) (by omega) (by omega) _ rfl (disD_step _ _ _ _ hlt2)), ((below_dr hbw _).alloc hbw.size _).setCell (by simp) _⟩
                    case measure => simp [intOf]; omega
                  · have hd := bne_no a b k m hlt hlt2 h3
                    have HV : Hid (dis a b (k + 1) (m + 1) = min (dis a b k m + 1) (min (dis a b k (m + 1) + 1) (dis a b (k + 1) m + 1))) := Lib.hid (by have h := disR_next (same a b) k m; rw [if_neg (by simp [same_no a b k m hlt hlt2 h3])] at h; simpa [dis] using h)
                    clear h3
                    go_wp2
                    go_quiet (fail)
                    go_wp2
                    have i1 : (0 : Int) ≤ (k : Int) := Int.natCast_nonneg _
                    have i2 : (k : Int) < 17 := by omega
                    have i3 : (0 : Int) ≤ (m : Int) := Int.natCast_nonneg _
                    have i4 : (m : Int) < 17 := by omega
                    have i5 : (0 : Int) ≤ (k : Int) + 1 := by omega
                    have i6 : (k : Int) + 1 < 17 := by omega
                    have i7 : (0 : Int) ≤ (m : Int) + 1 := by omega
                    have i8 : (m : Int) + 1 < 17 := by omega
                    have s1 : IntKind.i64.wrap ((k : Int) + 1) = (k : Int) + 1 := IntWalk.i64_in _ (by omega)
                    have s2 : IntKind.i64.wrap ((m : Int) + 1) = (m : Int) + 1 := IntWalk.i64_in _ (by omega)
                    have s3 : IntKind.i64.wrap (dis a b k (m + 1) + 1) = dis a b k (m + 1) + 1 := IntWalk.i64_in _ (by omega)
                    have s4 : IntKind.i64.wrap (dis a b (k + 1) m + 1) = dis a b (k + 1) m + 1 := IntWalk.i64_in _ (by omega)
                    have t1 : ((k : Int) + 1).toNat = k + 1 := by omega
                    have t2 : ((m : Int) + 1).toNat = m + 1 := by omega
                    have c4' : ∀ n o, ((wr.drewN n).alloc o).cell? ⟨w.heap.size + 1, (k + 1) * 17 + (m + 1), none⟩ = some v4 := fun n o => (World.cell?_alloc_lt (wr.drewN n) o _ hl).trans c4
                    have f4' : ∀ n cs t, ((wr.drewN n).alloc (.cells cs t)).frozen? ⟨w.heap.size + 1, (k + 1) * 17 + (m + 1), none⟩ = false := fun n cs t => (frozen?_alloc_cells (wr.drewN n) cs t _).trans f1
                    have c2' : ∀ n o u, (((wr.drewN n).alloc o).setCell ⟨w.heap.size + 1, (k + 1) * 17 + (m + 1), none⟩ u).cell? ⟨w.heap.size + 1, k * 17 + (m + 1), none⟩ = some (.int .i64 (dis a b k (m + 1))) := fun n o u => (World.cell?_setCell_other _ _ _ u (by intro e; injection e with _ e2 _; omega)).trans ((World.cell?_alloc_lt (wr.drewN n) o _ hl).trans c2)
                    have c3' : ∀ n o u, (((wr.drewN n).alloc o).setCell ⟨w.heap.size + 1, (k + 1) * 17 + (m + 1), none⟩ u).cell? ⟨w.heap.size + 1, (k + 1) * 17 + m, none⟩ = some (.int .i64 (dis a b (k + 1) m)) := fun n o u => (World.cell?_setCell_other _ _ _ u (by intro e; injection e with _ e2 _; omega)).trans ((World.cell?_alloc_lt (wr.drewN n) o _ hl).trans c3)
                    go_region_held3 (fun w' => w'.cell? ⟨w.heap.size + 1, k * 17 + (m + 1), none⟩ = some (.int .i64 (dis a b k (m + 1))) ∧ w'.cell? ⟨w.heap.size + 1, (k + 1) * 17 + m, none⟩ = some (.int .i64 (dis a b (k + 1) m))) (first | exact ⟨c2' _ _ _, c3' _ _ _⟩ | (go_keep; done)) ((go_at_call 29; go_loud (refine (cLeast2 _ _ _ _ _ _ _ HV.out (new_two0 _ _ _ _ _) (new_two1 _ _ _ _ _)).mono ?_; rintro e w' ⟨rfl, rfl⟩)))
                    go_wp2
                    go_roundw
                    case rel => exact ⟨m + 1, cs.setIfInBounds ((k + 1) * 17 + (m + 1)) (.int .i64 (dis a b (k + 1) (m + 1))), by omega, by go_num, Lib.hid (((HT.out.dr _).alloc _).set _ _), Lib.hid (HO.out.set (k + 1) (m + 1) (by omega) (by omega) _ rfl (disD_step _ _ _ _ hlt2)), ((below_dr hbw _).alloc hbw.size _).setCell (by simp) _⟩
                    case measure => simp [intOf]; omega
                · obtain rfl : m = b.size := by omega
                  go_wp2
                  go_roundw
                  case rel => exact ⟨k + 1, cs, by omega, by go_num, HT, Lib.hid (HO.out.weak (disD_row _ _ _ hlt)), hbw⟩
                  case measure => simp [intOf]; omega
            · obtain rfl : k = a.size := by omega
              have c1 : wq.cell? ⟨w.heap.size + 1, a.size * 17 + b.size, none⟩ = some (.int .i64 (dis a b a.size b.size)) := (HT.out.cell _).trans (HO.out.2 a.size b.size (by omega) (by omega) ⟨by omega, .inr ⟨by omega, .inl (by omega)⟩⟩)
              go_wp2
              go_ret2
              exact ⟨rfl, hbw⟩
end Go.Proofs.Ytdbbolnmcbhflaa
