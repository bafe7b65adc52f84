/-
  The contracts of the laws' helpers szStringS and toStringS.
-/
import Derived.Test.YtjofndiofacjjaaDoorArgs
import Derived.Test.YtjofndiofacjjaaDoorJoin
import Derived.OwnWalk
import Derived.Laws.OwnMore
import Derived.Deep.AppendLies
namespace Go.Proofs.YtjofndiofacjjaaDoor
set_option linter.unusedVariables false
open Go.RowKit

theorem info_str0 : (Tryd.prog.info? 9).map (fun i => (i.zero, i.size, i.bytes)) = some (some (.string ByteArray.empty), 1, 16) := by kernel_rfl
def vals (xs : List ByteArray) : List Value := xs.map Value.string
theorem vals_at (xs : List ByteArray) (j : Nat) (x : ByteArray) (h : xs[j]? = some x) : (vals xs)[j]? = some (.string x) := by simp [vals, h]
/-- What szStringS answers allows the walk to go on only for small slices. -/
def SmallS (n : Nat) (xs : List ByteArray) (r : Int) : Prop := r ≤ 1048576 ∧ (r < 0 ∨ (n ≤ 1048576 ∧ ∀ x ∈ xs, x.size ≤ 1048576))

set_option maxHeartbeats 400000 in
theorem cSzS_none (A : Option Addr) (cap : Nat) (w : World) :
    Calls Tryd.prog 29 #[.slice A 0 cap, .int .i64 1048576] w fun e w' => e = .returned (.int .i64 1048576) ∧ w = w' := by
  go_enter Tryd.func29, Tryd.ntmps29
  go_wp2
  refine wp_loop_rounds 1 ?_
  rw [rounds_succ]
  go_wp2
  go_ret
  exact ⟨rfl, rfl⟩

def SomeR (P : Int → Prop) (w : World) (e : Ending) (w' : World) : Prop := ∃ r : Int, P r ∧ e = .returned (.int .i64 r) ∧ w = w'
set_option maxHeartbeats 1000000 in
theorem cSzS (b o n cap : Nat) (xs : List ByteArray) (w : World) (hn : n = xs.length) (hbig : n ≤ maxLen) (hsz : ∀ x ∈ xs, x.size ≤ maxLen)
    (hc : ∀ (j : Nat) x, xs[j]? = some x → w.cell? ⟨b, o + j, none⟩ = some (.string x)) :
    Calls Tryd.prog 29 #[.slice (some ⟨b, o, none⟩) n cap, .int .i64 1048576] w (SomeR (SmallS n xs) w) := by
  unfold maxLen at hbig
  have HN := Lib.hid hn
  have HS := Lib.hid hsz
  have HC := Lib.hid hc
  clear hn hsz hc
  by_cases h1 : 1048576 < n
  · go_enter Tryd.func29, Tryd.ntmps29
    go_wp2
    go_ret
    exact ⟨-1, ⟨by omega, .inl (by omega)⟩, rfl, rfl⟩
  go_enter Tryd.func29, Tryd.ntmps29
  go_wp2
  go_loop [1, 5] (fun l i => ∃ (k : Nat) (r : Int), k ≤ n ∧ i = .int .i64 k ∧ l = .int .i64 r ∧ 0 ≤ r ∧ r ≤ 1048576 ∧ Hid (∀ x ∈ xs.take k, x.size ≤ 1048576)) (fun _ i => n - (intOf i).toNat)
  case atStart => exact ⟨0, _, Nat.zero_le _, rfl, rfl, by omega, by omega, Lib.hid (by simp)⟩
  case round =>
    obtain ⟨k, r, hk, rfl, rfl, hr0, hr1, HA⟩ := hrel
    by_cases hlt : k < n
    · obtain ⟨x, hx⟩ : ∃ x, xs[k]? = some x := ⟨xs[k]'(by have := HN.out; omega), List.getElem?_eq_getElem _⟩
      have hcx := HC.out k x hx
      have hsx := HS.out x (List.mem_of_getElem? hx)
      unfold maxLen at hsx
      have HX := Lib.hid hx
      clear hx
      by_cases h2 : r < x.size
      · go_wp2
        go_ret
        exact ⟨-1, ⟨by omega, .inl (by omega)⟩, rfl, rfl⟩
      · have h2' : (x.size : Int) ≤ r := by omega
        go_wp2
        go_round
        case rel => exact ⟨k + 1, _, by omega, by go_num, rfl, by omega, by omega, Lib.hid (by
          have hl := (List.getElem?_eq_some_iff.1 HX.out).1
          have he : xs[k] = x := (List.getElem?_eq_some_iff.1 HX.out).2
          rw [List.take_succ_eq_append_getElem hl, he]
          intro y hy
          rw [List.mem_append, List.mem_singleton] at hy
          rcases hy with hy | rfl
          · exact HA.out y hy
          · omega)⟩
        case measure => simp [intOf]; omega
    · have hall : xs.take k = xs := List.take_of_length_le (by have := HN.out; omega)
      have hfin : SmallS n xs r := ⟨hr1, .inr ⟨by omega, by rw [← hall]; exact HA.out⟩⟩
      have HF := Lib.hid hfin
      clear hall hfin
      go_wp2
      go_ret
      exact ⟨r, HF.out, rfl, rfl⟩

/-- The first k texts copied, the rest empty. -/
def copyV (xs : List ByteArray) (n k : Nat) : List Value := vals (xs.take k) ++ List.replicate (n - k) (.string ByteArray.empty)
theorem copyV_zero (xs : List ByteArray) (n : Nat) : (madeCells #[Value.string ByteArray.empty] n).toList = copyV xs n 0 := by
  apply List.ext_getElem?
  intro j
  by_cases h : j < n
  · simp [madeCells, copyV, vals, h, Nat.mod_one]
  · rw [List.getElem?_eq_none (by simp [madeCells]; omega), List.getElem?_eq_none (by simp [copyV, vals]; omega)]
theorem copyV_step (xs : List ByteArray) (n k : Nat) (x : ByteArray) (hn : n = xs.length) (h : xs[k]? = some x) : (copyV xs n k).set k (.string x) = copyV xs n (k + 1) := by
  have hl := (List.getElem?_eq_some_iff.1 h).1
  have he : xs[k] = x := (List.getElem?_eq_some_iff.1 h).2
  unfold copyV vals
  rw [List.set_append_right _ _ (by simp; omega), List.take_succ_eq_append_getElem hl, he, List.map_append, List.append_assoc]
  congr 1
  obtain ⟨d, hd⟩ : ∃ d, n - k = d + 1 := ⟨n - k - 1, by omega⟩
  rw [hd, show n - (k + 1) = d by omega, List.length_map, List.length_take, show k - min k xs.length = 0 by omega, List.replicate_succ, List.set_cons_zero]
  rfl
theorem copyV_all (xs : List ByteArray) (n : Nat) (hn : n = xs.length) : copyV xs n n = vals xs := by
  unfold copyV; rw [List.take_of_length_le (by omega), Nat.sub_self]; simp

theorem cToS_none (A : Option Addr) (cap : Nat) (w : World) :
    Calls Tryd.prog 31 #[.slice A 0 cap] w fun e w' => e = .returned (.slice (some ⟨w.heap.size, 0, none⟩) 0 0) ∧ Below w.heap.size w w' := by
  obtain ⟨i0, hi0, hz0, hz1, hz2⟩ := info_parts info_str0
  go_enter Tryd.func31, Tryd.ntmps31
  go_wp2_with (at_make; refine wpList_make_full _ rfl _ _ 50 rfl w.heap.size 9 i0 _ 1 Tryd.underlying50 hi0 hz0 hz1 _ _ _ _ 0 rfl rfl (by simp) (by simp) ?b2 ?b3 (Nat.le_refl _) ?_)
  case b2 => rw [hz2]; omega
  case b3 => unfold maxLen; omega
  intro w0 hown0 hgrow0
  have hb0 : Below w.heap.size w w0 := (Below.refl _ _).grown hgrow0 (Nat.le_refl _) (fun k h => by cases h)
  clear hown0 hgrow0
  go_wp2
  refine wp_loop_rounds 1 ?_
  rw [rounds_succ]
  go_wp2
  go_ret
  exact ⟨rfl, hb0⟩

set_option maxHeartbeats 1000000 in
theorem cToS (b o n cap : Nat) (xs : List ByteArray) (w : World) (hn : n = xs.length) (hbig : n ≤ 1048576) (hb : b < w.heap.size)
    (hc : ∀ (j : Nat) x, xs[j]? = some x → w.cell? ⟨b, o + j, none⟩ = some (.string x)) :
    Calls Tryd.prog 31 #[.slice (some ⟨b, o, none⟩) n cap] w fun e w' => e = .returned (.slice (some ⟨w.heap.size, 0, none⟩) n n) ∧
      w'.ownsRow w.heap.size 9 1 (.slice (some ⟨w.heap.size, 0, none⟩) n n) n (vals xs) ∧ Below w.heap.size w w' := by
  obtain ⟨i0, hi0, hz0, hz1, hz2⟩ := info_parts info_str0
  have HN := Lib.hid hn
  have HC := Lib.hid hc
  clear hn hc
  go_enter Tryd.func31, Tryd.ntmps31
  go_wp2_with (at_make; refine wpList_make_full _ rfl _ _ 50 rfl w.heap.size 9 i0 _ 1 Tryd.underlying50 hi0 hz0 hz1 _ _ _ _ n rfl rfl (by simp) (by simp) ?b2 ?b3 (Nat.le_refl _) ?_)
  case b2 => rw [hz2]; omega
  case b3 => unfold maxLen; omega
  intro w0 hown0 hgrow0
  rw [copyV_zero xs] at hown0
  have hb0 : Below w.heap.size w w0 := (Below.refl _ _).grown hgrow0 (Nat.le_refl _) (fun k h => by cases h)
  clear hgrow0
  go_wp2
  go_loopw [4] (fun i wr => ∃ k : Nat, k ≤ n ∧ i = .int .i64 k ∧ wr.ownsRow w.heap.size 9 1 (.slice (some ⟨w.heap.size, 0, none⟩) n n) n (copyV xs n k) ∧ Below w.heap.size w wr) (fun i _ => n - (intOf i).toNat)
  case atStart => exact ⟨0, Nat.zero_le _, rfl, hown0, hb0⟩
  case round =>
    clear hown0 hb0
    obtain ⟨k, hk, rfl, hown, hbw⟩ := hrel
    by_cases hlt : k < n
    · obtain ⟨x, hx⟩ : ∃ x, xs[k]? = some x := ⟨xs[k]'(by have := HN.out; omega), List.getElem?_eq_getElem _⟩
      have hcx := (hbw.cell (by exact hb)).trans (HC.out k x hx)
      have f4 := hown.frozenAt k
      obtain ⟨v4, c4⟩ : ∃ v, wr.cell? ⟨w.heap.size, k, none⟩ = some v := by
        have hl : k < (copyV xs n k).length := by rw [hown.1]; omega
        exact ⟨_, (hown.cellAt k (by omega)).trans (List.getElem?_eq_getElem hl)⟩
      have hst := (hown.stored k (.string x)).1
      rw [copyV_step xs n k x HN.out hx] at hst
      have hbw1 : Below w.heap.size w (wr.setCell ⟨w.heap.size, k, none⟩ (.string x)) := hbw.setCell (Nat.le_refl _) _
      have e1 : (0 : Int) ≤ (k : Int) := Int.natCast_nonneg _
      have e2 : (k : Int) < (n : Int) := by omega
      clear hx hown
      go_wp2
      go_roundw
      case rel => exact ⟨k + 1, by omega, by go_num, hst, hbw1⟩
      case measure => simp [intOf]; omega
    · obtain rfl : k = n := by omega
      rw [copyV_all xs k HN.out] at hown
      go_wp2
      go_ret
      exact ⟨rfl, hown, hbw⟩
end Go.Proofs.YtjofndiofacjjaaDoor
