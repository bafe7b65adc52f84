/-
  Sorting places by their distance: the contracts of cmp.Compare, of the closure of impl.NearestWords and of slices.SortStableFunc.
-/
import Derived.Test.YtmbahbnadkmnkaaNearPlain
import Derived.Test.YtmbahbnadkmnkaaInsI
import Derived.Test.YtmbahbnadkmnkaaIntRow
import Derived.Deep.QuietTactic
import Derived.BigQuiet
import Derived.Sort.OwnSortedInts
import Derived.Deep.AppendLies
namespace Go.Proofs.Ytmbahbnadkmnkaa
set_option linter.unusedVariables false
open Go.RowKit Go.Sort

def cmpV (x y : Int) : Int := if x < y then -1 else if y < x then 1 else 0
theorem cmpV_lt {x y : Int} (h : x < y) : cmpV x y = -1 := by unfold cmpV; rw [if_pos h]
theorem cmpV_gt {x y : Int} (h : y < x) : cmpV x y = 1 := by unfold cmpV; rw [if_neg (by omega), if_pos h]
theorem cmpV_eq {x y : Int} (h1 : ¬ x < y) (h2 : ¬ y < x) : cmpV x y = 0 := by unfold cmpV; rw [if_neg h1, if_neg h2]
theorem cNaN (x : Int) (w : World) : Calls Try.prog 68 #[.int .i64 x] w fun e w' => e = .returned (.bool false) ∧ w = w' := by
  have h : (x != x) = false := by simp
  go_enter Try.func68, Try.ntmps68
  go_wp2
  go_ret
  exact ⟨by simp, rfl⟩
theorem cCompare (x y : Int) (w : World) : Calls Try.prog 47 #[.int .i64 x, .int .i64 y] w fun e w' => e = .returned (.int .i64 (cmpV x y)) ∧ w = w' := by
  by_cases h1 : x < y
  · rw [cmpV_lt h1]
    go_enter Try.func47, Try.ntmps47
    go_wp2_with (go_at_call 68; refine (cNaN _ _).mono ?_; rintro e w' ⟨rfl, rfl⟩)
    go_ret
    exact ⟨rfl, rfl⟩
  by_cases h2 : y < x
  · rw [cmpV_gt h2]
    go_enter Try.func47, Try.ntmps47
    go_wp2_with (go_at_call 68; refine (cNaN _ _).mono ?_; rintro e w' ⟨rfl, rfl⟩)
    go_ret
    exact ⟨rfl, rfl⟩
  · rw [cmpV_eq h1 h2]
    go_enter Try.func47, Try.ntmps47
    go_wp2_with (go_at_call 68; refine (cNaN _ _).mono ?_; rintro e w' ⟨rfl, rfl⟩)
    go_ret
    exact ⟨rfl, rfl⟩

set_option maxHeartbeats 1000000 in
theorem cNearCmp (bx gd N x y : Nat) (D : Nat → Int) (hx : x < N) (hy : y < N) (hN : N ≤ 1048576) (W : World) (hbox : W.cell? ⟨bx, 0, none⟩ = some (.slice (some ⟨gd, 0, none⟩) N N)) (hrow : ∀ j, j < N → W.cell? ⟨gd, j, none⟩ = some (.int .i64 (D j))) :
    Calls Try.prog 46 #[.int .i64 (x : Int), .int .i64 (y : Int), .pointer (some ⟨bx, 0, none⟩)] W fun e w' => e = .returned (.int .i64 (cmpV (D x) (D y))) ∧ ∃ q, w' = W.drewN q := by
  have h1 := hrow x hx
  have h2 := hrow y hy
  have i1 : (x : Int) < (N : Int) := by omega
  have i2 : (y : Int) < (N : Int) := by omega
  have i3 : (0 : Int) ≤ (x : Int) := Int.natCast_nonneg _
  have i4 : (0 : Int) ≤ (y : Int) := Int.natCast_nonneg _
  obtain ⟨a, ha⟩ : ∃ a, a = D x := ⟨_, rfl⟩
  obtain ⟨b, hb⟩ : ∃ b, b = D y := ⟨_, rfl⟩
  rw [← ha] at h1 ⊢
  rw [← hb] at h2 ⊢
  have CC := Lib.hid (fun V => (cCompare a b V).mono (fun e w' h => (⟨h.1, h.2.symm⟩ : e = .returned (.int .i64 (cmpV a b)) ∧ w' = V)))
  clear hrow ha hb
  go_enter Try.func46, Try.ntmps46
  go_wp2_with fail
  go_quiet ((go_at_call 47; exact Calls.quiet_of_same (CC.out _)))
  go_wp2_with fail
  go_ret
  exact ⟨rfl, nq, rfl⟩

/-- A place as the row holds it. -/
def encN (N : Nat) (k : Nat) : Value := .int .i64 ((k % N : Nat) : Int)
theorem encN_one (N : Nat) : Go.Proofs.OneCell (encN N) := fun _ => rfl
theorem encN_at {N k : Nat} (h : k < N) : encN N k = .int .i64 (k : Int) := by unfold encN; rw [Nat.mod_eq_of_lt h]
def natI (l : List Nat) : List Int := l.map fun (k : Nat) => (k : Int)
theorem encN_list {N : Nat} {l : List Nat} (h : ∀ x ∈ l, x < N) : l.map (encN N) = intV (natI l) := by
  unfold intV natI
  rw [List.map_map]
  apply List.map_congr_left
  intro x hx
  exact encN_at (h x hx)
theorem holds_own {w : World} {base g n cap : Nat} {e : TypeId} {enc : Nat → Value} {d : Array Nat} (h : w.ownsRow base e 1 (.slice (some ⟨g, 0, none⟩) n cap) n (d.toList.map enc)) : Holds enc w g 0 d := by
  intro j hj
  have hl := h.1
  rw [List.length_map, Array.length_toList] at hl
  have hjn : j < n * 1 := by omega
  rw [Nat.zero_add]
  refine ⟨?_, h.frozenAt j⟩
  rw [h.cellAt j hjn, List.getElem?_map]
  rw [show d.toList[j]? = some d[j]! from by rw [Array.getElem?_toList, getElem!_pos d j hj, Array.getElem?_eq_getElem hj]]
  rfl
theorem heap_put {w : World} {g q : Nat} {cur : Array Value} {e : TypeId} {fr : Nat × Nat} {enc : Nat → Value} (d : Array Nat) (hb : w.heap[g]? = some (.cells cur e fr)) :
    ((putRow enc w g 0 d).drewN q).heap[g]? = some (.cells (putCells enc 0 d cur) e fr) := by
  show (putRow enc w g 0 d).heap[g]? = _
  simp [putRow, mapBlock, Array.getElem?_modify, hb, onCells]
theorem grown_put {w : World} {g q : Nat} {enc : Nat → Value} (d : Array Nat) : w.grownBy ((putRow enc w g 0 d).drewN q) (some g) := by
  refine ⟨rfl, rfl, rfl, ?_, fun k hk hne => ?_⟩
  · show w.heap.size ≤ (putRow enc w g 0 d).heap.size
    rw [size_putRow]; exact Nat.le_refl _
  · show (putRow enc w g 0 d).heap[k]? = _
    have : g ≠ k := fun e => hne (by rw [e])
    simp [putRow, mapBlock, Array.getElem?_modify, this]
theorem take_put (enc : Nat → Value) (cur : Array Value) (r : Array Nat) (h : r.size ≤ cur.size) : (putCells enc 0 r cur).toList.take r.size = r.toList.map enc := by
  apply List.ext_getElem?
  intro j
  by_cases hj : j < r.size
  · rw [List.getElem?_take_of_lt hj, Array.getElem?_toList, List.getElem?_map, Array.getElem?_toList, Array.getElem?_eq_getElem hj]
    simp [putCells, hj, show j < cur.size by omega]
  · rw [List.getElem?_take_eq_none (by omega), List.getElem?_eq_none (by simp; omega)]
theorem own_put {w : World} {base g n cap q : Nat} {e : TypeId} {enc : Nat → Value} {d r : Array Nat} (h : w.ownsRow base e 1 (.slice (some ⟨g, 0, none⟩) n cap) n (d.toList.map enc)) (hr : r.size = d.size) :
    ((putRow enc w g 0 r).drewN q).ownsRow base e 1 (.slice (some ⟨g, 0, none⟩) n cap) n (r.toList.map enc) := by
  have hl := h.1
  rw [List.length_map, Array.length_toList] at hl
  refine ⟨by rw [List.length_map, Array.length_toList, hr, hl], ?_⟩
  rcases h.2 with ⟨hv, _⟩ | ⟨g', cap', cur, hv, hg, hb, h1, h2, h3, h4⟩
  · cases hv
  · cases hv
    refine .inr ⟨g, cap, _, rfl, hg, heap_put r hb, h1, h2, by simp [putCells, h3], ?_⟩
    have := take_put enc cur r (by omega)
    rw [← this, hr, hl]

theorem cIns_none (A : Option Addr) (n c : Nat) (a b : Nat) (f : Value) (h : b ≤ a + 1) (ha : a ≤ 1048576) (w : World) :
    Calls Try.prog 79 #[.slice A n c, .int .i64 (a : Int), .int .i64 (b : Int), f] w fun e w' => e = .returned (.tuple #[]) ∧ w = w' := by
  have h1 : ¬ ((a : Int) + 1 < (b : Int)) := by omega
  go_enter Try.func79, Try.ntmps79
  go_wp2
  refine wp_loop_rounds 1 ?_
  rw [rounds_succ]
  go_wp2
  go_end0
  exact ⟨rfl, rfl⟩

/-- The row of places is sorted by their distance; equals stay in order. -/
theorem cIns (bx gd g N m c base : Nat) (D : Nat → Int) (d : Array Nat) (w : World) (hN : N ≤ 1048576) (hN0 : 0 < N) (hd : d.size = m) (hbx : bx < w.heap.size) (hgd : gd < w.heap.size) (hne1 : bx ≠ g) (hne2 : gd ≠ g)
    (hbox : w.cell? ⟨bx, 0, none⟩ = some (.slice (some ⟨gd, 0, none⟩) N N)) (hrow : ∀ j, j < N → w.cell? ⟨gd, j, none⟩ = some (.int .i64 (D j))) (hm : m ≤ 1048576)
    (h : w.ownsRow base 2 1 (.slice (some ⟨g, 0, none⟩) m c) m (d.toList.map (encN N))) :
    Calls Try.prog 79 #[.slice (some ⟨g, 0, none⟩) m c, .int .i64 ((0 : Nat) : Int), .int .i64 (m : Int), .func (.func 46) #[] #[.pointer (some ⟨bx, 0, none⟩)]] w fun e w' => e = .returned (.tuple #[]) ∧
      w'.ownsRow base 2 1 (.slice (some ⟨g, 0, none⟩) m c) m ((Sort.insertionSort (ltD fun k => D (k % N)) d 0 d.size).toList.map (encN N)) ∧ w.grownBy w' (some g) := by
  have hcmp : CmpReads Try.prog 46 #[.pointer (some ⟨bx, 0, none⟩)] (encN N) (fun x y => cmpV (D (x % N)) (D (y % N))) g 0 d.size w := by
    intro q os dk hdk x y
    refine cNearCmp bx gd N (x % N) (y % N) D (Nat.mod_lt _ hN0) (Nat.mod_lt _ hN0) hN (sortWorld (encN N) w g 0 q dk os) ?_ (fun j hj => ?_)
    · unfold sortWorld
      rw [cell?_grow _ _ _ (by rw [size_putRow]; exact hbx), cell?_putRow_other _ _ _ _ _ _ (.inl hne1), cell?_ahead]
      exact hbox
    · unfold sortWorld
      rw [cell?_grow _ _ _ (by rw [size_putRow]; exact hgd), cell?_putRow_other _ _ _ _ _ _ (.inl hne2), cell?_ahead]
      exact hrow j hj
  have hlt : ltOf (fun x y => cmpV (D (x % N)) (D (y % N))) = ltD (fun k => D (k % N)) := by
    funext x y
    unfold ltOf ltD
    rw [decide_eq_decide]
    unfold cmpV
    show (if D (x % N) < D (y % N) then (-1 : Int) else if D (y % N) < D (x % N) then 1 else 0) < 0 ↔ D (x % N) < D (y % N)
    constructor
    · intro h1
      by_cases h2 : D (x % N) < D (y % N)
      · exact h2
      · rw [if_neg h2] at h1
        split at h1 <;> omega
    · intro h1
      rw [if_pos h1]; omega
  have hC := Any.insertionSortCmpFunc_one Try.insI (encN N) (encN_one N) (fun x y => cmpV (D (x % N)) (D (y % N))) 46 #[.pointer (some ⟨bx, 0, none⟩)] g 0 c 0 d.size d w
    (enters_of Try.func46 (by kernel_rfl) rfl) hcmp (holds_own h) (Nat.zero_le _) (Nat.le_refl _) (by omega)
  rw [hlt, hd] at hC
  refine (show Calls Try.prog _ _ _ _ from hC).mono ?_
  rintro e w' ⟨rfl, q, rfl⟩
  have hsz : (Sort.insertionSort (ltD fun k => D (k % N)) d 0 m).size = d.size := by rw [← hd]; exact sort_size _ d
  rw [hd]
  exact ⟨rfl, own_put h hsz, grown_put _⟩

set_option maxHeartbeats 1000000 in
theorem cStable (bx gd g N m c base : Nat) (D : Nat → Int) (d : Array Nat) (w : World) (hN : N ≤ 1048576) (hN0 : 0 < N) (hd : d.size = m) (hbx : bx < w.heap.size) (hgd : gd < w.heap.size) (hne1 : bx ≠ g) (hne2 : gd ≠ g)
    (hbox : w.cell? ⟨bx, 0, none⟩ = some (.slice (some ⟨gd, 0, none⟩) N N)) (hrow : ∀ j, j < N → w.cell? ⟨gd, j, none⟩ = some (.int .i64 (D j))) (hm : m ≤ 20)
    (h : w.ownsRow base 2 1 (.slice (some ⟨g, 0, none⟩) m c) m (d.toList.map (encN N))) :
    Calls Try.prog 45 #[.slice (some ⟨g, 0, none⟩) m c, .func (.func 46) #[] #[.pointer (some ⟨bx, 0, none⟩)]] w fun e w' => e = .returned (.tuple #[]) ∧
      w'.ownsRow base 2 1 (.slice (some ⟨g, 0, none⟩) m c) m ((Sort.insertionSort (ltD fun k => D (k % N)) d 0 d.size).toList.map (encN N)) ∧ w.grownBy w' (some g) := by
  have CI := Lib.hid (cIns bx gd g N m c base D d w hN hN0 hd hbx hgd hne1 hne2 hbox hrow (by omega) h)
  have CN := Lib.hid (fun (a b : Nat) W (h1 : b ≤ a + 1) (h2 : a ≤ 1048576) => cIns_none (some ⟨g, 0, none⟩) m c a b (.func (.func 46) #[] #[.pointer (some ⟨bx, 0, none⟩)]) h1 h2 W)
  clear hbox hrow h
  have CS : Hid (Calls Try.prog 67 #[.slice (some ⟨g, 0, none⟩) m c, .int .i64 (m : Int), .func (.func 46) #[] #[.pointer (some ⟨bx, 0, none⟩)]] w fun e w' => e = .returned (.tuple #[]) ∧
      w'.ownsRow base 2 1 (.slice (some ⟨g, 0, none⟩) m c) m ((Sort.insertionSort (ltD fun k => D (k % N)) d 0 d.size).toList.map (encN N)) ∧ w.grownBy w' (some g)) := Lib.hid (by
    by_cases h20 : m = 20
    · subst h20
      have CI2 : Hid (Calls Try.prog 79 #[.slice (some ⟨g, 0, none⟩) 20 c, .int .i64 0, .int .i64 20, .func (.func 46) #[] #[.pointer (some ⟨bx, 0, none⟩)]] w _) := CI
      have CN2 : Hid (∀ W, Calls Try.prog 79 #[.slice (some ⟨g, 0, none⟩) 20 c, .int .i64 20, .int .i64 20, .func (.func 46) #[] #[.pointer (some ⟨bx, 0, none⟩)]] W _) := Lib.hid (fun W => CN.out 20 20 W (by omega) (by omega))
      clear CI CN
      go_enter Try.func67, Try.ntmps67
      go_wp2
      refine wp_loop_rounds 3 ?_
      rw [rounds_succ]
      go_wp2_with fail
      refine CI2.out.mono ?_
      rintro e w1 ⟨rfl, hO1, hG1⟩
      have HO1 := Lib.hid hO1
      have HG1 := Lib.hid hG1
      clear hO1 hG1
      go_wp2_with fail
      rw [rounds_succ]
      go_wp2_with fail
      refine (CN2.out _).mono ?_
      rintro e w' ⟨rfl, rfl⟩
      go_wp2_with fail
      refine wp_loop_rounds 1 ?_
      rw [rounds_succ]
      go_wp2_with fail
      go_end0
      exact ⟨rfl, HO1.out, HG1.out⟩
    · have CI2 : Hid (Calls Try.prog 79 #[.slice (some ⟨g, 0, none⟩) m c, .int .i64 0, .int .i64 (m : Int), .func (.func 46) #[] #[.pointer (some ⟨bx, 0, none⟩)]] w _) := CI
      have h1 : ¬ ((20 : Int) ≤ (m : Int)) := by omega
      have h2 : ¬ ((20 : Int) < (m : Int)) := by omega
      clear CI CN
      go_enter Try.func67, Try.ntmps67
      go_wp2
      refine wp_loop_rounds 1 ?_
      rw [rounds_succ]
      go_wp2_with fail
      refine CI2.out.mono ?_
      rintro e w1 ⟨rfl, hO1, hG1⟩
      have HO1 := Lib.hid hO1
      have HG1 := Lib.hid hG1
      clear hO1 hG1
      go_wp2_with fail
      refine wp_loop_rounds 1 ?_
      rw [rounds_succ]
      go_wp2_with fail
      go_end0
      exact ⟨rfl, HO1.out, HG1.out⟩)
  clear CI CN
  go_enter Try.func45, Try.ntmps45
  go_wp2_with fail
  refine CS.out.mono ?_
  rintro e w1 ⟨rfl, hO1, hG1⟩
  go_wp2_with fail
  go_end0
  exact ⟨rfl, hO1, hG1⟩
end Go.Proofs.Ytmbahbnadkmnkaa
