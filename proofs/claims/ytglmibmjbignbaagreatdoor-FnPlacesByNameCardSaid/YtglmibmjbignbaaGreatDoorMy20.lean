/-
  Slices of numbers of any length: what a walk holds of one, and the contracts of the laws' toInt64S and eqInt64S at it.
-/
import Derived.Test.YtglmibmjbignbaaGreatDoorMy6
import Derived.Test.YtglmibmjbignbaaGreatDoorMy1
import Derived.Test.YtglmibmjbignbaaGreatDoorMy12
import Derived.Test.YtglmibmjbignbaaGreatDoorTr10P
namespace Go.Proofs.YtglmibmjbignbaaGreatDoor
section
set_option linter.unusedVariables false
open Go.RowKit

/-- A slice that holds the numbers xs, in a block below B. -/
def NumAt (w : World) (B : Nat) (A : Option Addr) (n : Nat) (xs : List Int) : Prop :=
  n = xs.length ∧ (0 < n → ∃ b o, A = some ⟨b, o, none⟩ ∧ b < B ∧ ∀ (j : Nat) x, xs[j]? = some x → w.cell? ⟨b, o + j, none⟩ = some (.int .i64 x))
theorem NumAt.below {w w' : World} {B C : Nat} {A : Option Addr} {n : Nat} {xs : List Int} (h : NumAt w B A n xs) (hb : Below C w w') (hBC : B ≤ C) : NumAt w' B A n xs :=
  ⟨h.1, fun hp => by obtain ⟨b, o, h1, h2, h3⟩ := h.2 hp; exact ⟨b, o, h1, h2, fun j x hx => (hb.cell (by exact Nat.lt_of_lt_of_le h2 hBC)).trans (h3 j x hx)⟩⟩
theorem NumAt.more {w : World} {B C : Nat} {A : Option Addr} {n : Nat} {xs : List Int} (h : NumAt w B A n xs) (hBC : B ≤ C) : NumAt w C A n xs :=
  ⟨h.1, fun hp => by obtain ⟨b, o, h1, h2, h3⟩ := h.2 hp; exact ⟨b, o, h1, Nat.lt_of_lt_of_le h2 hBC, h3⟩⟩
theorem IsInts.row {k : IntKind} {w : World} {a : Option Addr} {len cap : Nat} {zs : List Int} (h : IsInts k w a len cap zs) (hp : 0 < len) :
    ∃ b o, a = some ⟨b, o, none⟩ ∧ b < w.heap.size ∧ (zs.take len).length = len ∧ len ≤ maxLen ∧ (∀ (j : Nat) x, (zs.take len)[j]? = some x → w.cell? ⟨b, o + j, none⟩ = some (.int k x)) ∧ ∀ n ∈ zs.take len, (Lit.int k n).wf = true := by
  rcases h with ⟨_, h, _⟩ | ⟨x, rfl, hl, hm, hz, hc, hs⟩
  · omega
  · obtain ⟨b, o, spot⟩ := x
    have hspot : spot = none := by simpa [Addr.add] using World.cell?_spot (hc 0 (by omega))
    subst hspot
    have h0 := hc 0 (by omega)
    rw [add_plain'] at h0
    refine ⟨b, o, rfl, World.block_lt_of_cell? w _ h0, by simp; omega, by omega, fun j y hj => ?_, fun s hs' => hs s (List.mem_of_mem_take hs')⟩
    have hjl := (List.getElem?_eq_some_iff.1 hj).1
    rw [List.length_take] at hjl
    have h1 := hc j (by omega)
    rw [add_plain'] at h1
    rw [h1]
    rw [List.getElem?_take, if_pos (by omega)] at hj
    simp [List.getD, hj]

def copyI (xs : List Int) (n k : Nat) : List Value := intV (xs.take k) ++ List.replicate (n - k) (.int .i64 0)
theorem copyI_zero (xs : List Int) (n : Nat) : (madeCells #[Value.int .i64 0] n).toList = copyI xs n 0 := by
  apply List.ext_getElem?
  intro j
  by_cases h : j < n
  · simp [madeCells, copyI, intV, h, Nat.mod_one]
  · rw [List.getElem?_eq_none (by simp [madeCells]; omega), List.getElem?_eq_none (by simp [copyI, intV]; omega)]
theorem copyI_step (xs : List Int) (n k : Nat) (x : Int) (hn : n = xs.length) (h : xs[k]? = some x) : (copyI xs n k).set k (.int .i64 x) = copyI xs n (k + 1) := by
  have hl := (List.getElem?_eq_some_iff.1 h).1
  have he : xs[k] = x := (List.getElem?_eq_some_iff.1 h).2
  unfold copyI intV
  rw [List.set_append_right _ _ (by simp; omega), List.take_succ_eq_append_getElem hl, he, List.map_append, List.append_assoc]
  congr 1
  obtain ⟨d, hd⟩ : ∃ d, n - k = d + 1 := ⟨n - k - 1, by omega⟩
  rw [hd, show n - (k + 1) = d by omega, List.length_map, List.length_take, show k - min k xs.length = 0 by omega, List.replicate_succ, List.set_cons_zero]
  rfl
theorem copyI_all (xs : List Int) (n : Nat) (hn : n = xs.length) : copyI xs n n = intV xs := by
  unfold copyI; rw [List.take_of_length_le (by omega), Nat.sub_self]; simp

theorem cToI_none (A : Option Addr) (cap : Nat) (w : World) :
    Calls Tryz.prog 47 #[.slice A 0 cap] w fun e w' => e = .returned (.slice (some ⟨w.heap.size, 0, none⟩) 0 0) ∧ Below w.heap.size w w' := by
  obtain ⟨i0, hi0, hz0, hz1, hz2⟩ := info_parts info_i64
  go_enter Tryz.func47, Tryz.ntmps47
  go_wp2_with (at_make; refine wpList_make_full _ rfl _ _ 49 rfl w.heap.size 2 i0 _ 1 Tryz.underlying49 hi0 hz0 hz1 _ _ _ _ 0 rfl rfl (by simp) (by simp) ?b2 ?b3 (Nat.le_refl _) ?_)
  case b2 => rw [hz2]; omega
  case b3 => unfold maxLen; omega
  intro w0 hown0 hgrow0
  have hb0 : Below w.heap.size w w0 := (Below.refl _ _).grown hgrow0 (Nat.le_refl _) (fun k h => by cases h)
  clear hown0 hgrow0
  go_wp2
  refine wp_loop_rounds 1 ?_
  rw [rounds_succ]
  go_wp2
  go_ret
  exact ⟨rfl, hb0⟩

set_option maxHeartbeats 1000000 in
theorem cToI (b o n cap : Nat) (xs : List Int) (w : World) (hn : n = xs.length) (hbig : n ≤ 1048576) (hb : b < w.heap.size)
    (hc : ∀ (j : Nat) x, xs[j]? = some x → w.cell? ⟨b, o + j, none⟩ = some (.int .i64 x)) :
    Calls Tryz.prog 47 #[.slice (some ⟨b, o, none⟩) n cap] w fun e w' => e = .returned (.slice (some ⟨w.heap.size, 0, none⟩) n n) ∧
      w'.ownsRow w.heap.size 2 1 (.slice (some ⟨w.heap.size, 0, none⟩) n n) n (intV xs) ∧ Below w.heap.size w w' := by
  obtain ⟨i0, hi0, hz0, hz1, hz2⟩ := info_parts info_i64
  have HN := Lib.hid hn
  have HC := Lib.hid hc
  clear hn hc
  go_enter Tryz.func47, Tryz.ntmps47
  go_wp2_with (at_make; refine wpList_make_full _ rfl _ _ 49 rfl w.heap.size 2 i0 _ 1 Tryz.underlying49 hi0 hz0 hz1 _ _ _ _ n rfl rfl (by simp) (by simp) ?b2 ?b3 (Nat.le_refl _) ?_)
  case b2 => rw [hz2]; omega
  case b3 => unfold maxLen; omega
  intro w0 hown0 hgrow0
  rw [copyI_zero xs] at hown0
  have hb0 : Below w.heap.size w w0 := (Below.refl _ _).grown hgrow0 (Nat.le_refl _) (fun k h => by cases h)
  clear hgrow0
  go_wp2
  go_loopw [4] (fun i wr => ∃ k : Nat, k ≤ n ∧ i = .int .i64 k ∧ wr.ownsRow w.heap.size 2 1 (.slice (some ⟨w.heap.size, 0, none⟩) n n) n (copyI xs n k) ∧ Below w.heap.size w wr) (fun i _ => n - (intOf i).toNat)
  case atStart => exact ⟨0, Nat.zero_le _, rfl, hown0, hb0⟩
  case round =>
    clear hown0 hb0
    obtain ⟨k, hk, rfl, hown, hbw⟩ := hrel
    by_cases hlt : k < n
    · obtain ⟨x, hx⟩ : ∃ x, xs[k]? = some x := ⟨xs[k]'(by have := HN.out; omega), List.getElem?_eq_getElem _⟩
      have hcx := (hbw.cell (by exact hb)).trans (HC.out k x hx)
      have f4 := hown.frozenAt k
      obtain ⟨v4, c4⟩ : ∃ v, wr.cell? ⟨w.heap.size, k, none⟩ = some v := by
        have hl : k < (copyI xs n k).length := by rw [hown.1]; omega
        exact ⟨_, (hown.cellAt k (by omega)).trans (List.getElem?_eq_getElem hl)⟩
      have hst := (hown.stored k (.int .i64 x)).1
      rw [copyI_step xs n k x HN.out hx] at hst
      have hbw1 : Below w.heap.size w (wr.setCell ⟨w.heap.size, k, none⟩ (.int .i64 x)) := hbw.setCell (Nat.le_refl _) _
      clear hx hown
      go_wp2
      go_roundw
      case rel => exact ⟨k + 1, by omega, by go_num, hst, hbw1⟩
      case measure => simp [intOf]; omega
    · obtain rfl : k = n := by omega
      rw [copyI_all xs k HN.out] at hown
      go_wp2
      go_ret
      exact ⟨rfl, hown, hbw⟩

theorem numAt_arg {w : World} {a : Option Addr} {n cap : Nat} {zs : List Int} (h : IsInts .i64 w a n cap zs) : n ≤ maxLen ∧ NumAt w w.heap.size a n (zs.take n) := by
  rcases Nat.eq_zero_or_pos n with rfl | hp
  · exact ⟨Nat.zero_le _, by simp, fun h => absurd h (by omega)⟩
  · obtain ⟨b, o, rfl, hb, hl, hm, hc, _⟩ := h.row hp
    exact ⟨hm, hl.symm, fun _ => ⟨b, o, rfl, hb, hc⟩⟩
theorem tToI (A : Option Addr) (n cap : Nat) (xs : List Int) (w : World) (hbig : n ≤ 1048576) (h : NumAt w w.heap.size A n xs) :
    Calls Tryz.prog 47 #[.slice A n cap] w fun e w' => e = .returned (.slice (some ⟨w.heap.size, 0, none⟩) n n) ∧
      NumAt w' w'.heap.size (some ⟨w.heap.size, 0, none⟩) n xs ∧ Below w.heap.size w w' := by
  rcases Nat.eq_zero_or_pos n with rfl | hp
  · refine (cToI_none A cap w).mono ?_
    rintro e w' ⟨rfl, hb⟩
    exact ⟨rfl, ⟨h.1, fun hp => absurd hp (by omega)⟩, hb⟩
  · obtain ⟨b, o, rfl, hb, hc⟩ := h.2 hp
    refine (cToI b o n cap xs w h.1 hbig hb hc).mono ?_
    rintro e w' ⟨rfl, own, hbw⟩
    refine ⟨rfl, ⟨h.1, fun _ => ⟨_, 0, rfl, (own.lt _ rfl).2, fun j x hx => ?_⟩⟩, hbw⟩
    rw [Nat.zero_add]
    exact (own.cellAt j (by have := (List.getElem?_eq_some_iff.1 hx).1; have := h.1; omega)).trans (intV_at _ _ _ hx)

set_option maxHeartbeats 1000000 in
set_option maxRecDepth 100000 in
/-- Two slices with the same numbers are equal. -/
theorem tEqI (A A' : Option Addr) (cap cap' n B C : Nat) (xs : List Int) (w : World) (hbig : n ≤ 1048576) (h1 : NumAt w B A n xs) (h2 : NumAt w C A' n xs) :
    Calls Tryz.prog 48 #[.slice A n cap, .slice A' n cap'] w fun e w' => e = .returned (.bool true) ∧ ∃ m, w' = w.drewN m := by
  rcases Nat.eq_zero_or_pos n with rfl | hp
  · go_enter Tryz.func48, Tryz.ntmps48
    go_wp2
    refine wp_loop_rounds 1 ?_
    rw [rounds_succ]
    go_wp2
    go_ret
    exact ⟨rfl, 0, rfl⟩
  obtain ⟨b, o, rfl, hb, hc⟩ := h1.2 hp
  obtain ⟨b', o', rfl, hb', hc'⟩ := h2.2 hp
  have HN := Lib.hid h1.1
  have H1 := Lib.hid hc
  have H2 := Lib.hid hc'
  clear h1 h2 hc hc' hb hb'
  go_enter Tryz.func48, Tryz.ntmps48
  go_wp2
  go_loopw [5] (fun i wr => ∃ j m : Nat, j ≤ n ∧ i = .int .i64 j ∧ wr = w.drewN m) (fun i _ => n - (intOf i).toNat)
  case atStart => exact ⟨0, 0, Nat.zero_le _, rfl, rfl⟩
  case round =>
    obtain ⟨j, m, hj, rfl, rfl⟩ := hrel
    by_cases hlt : j < n
    · obtain ⟨x, hx⟩ : ∃ x, xs[j]? = some x := ⟨xs[j]'(by have := HN.out; omega), List.getElem?_eq_getElem _⟩
      have c1 : w.cell? ⟨b, o + j, none⟩ = some (.int .i64 x) := H1.out j x hx
      have c2 : w.cell? ⟨b', o' + j, none⟩ = some (.int .i64 x) := H2.out j x hx
      clear hx
      have e1 : (0 : Int) ≤ (j : Int) := Int.natCast_nonneg _
      have e2 : (j : Int) < (n : Int) := by omega
      go_wp2
      go_quiet (fail)
      go_wp2
      go_roundw
      case rel => exact ⟨j + 1, _, by omega, by go_num, rfl⟩
      case measure => simp [intOf]; omega
    · go_wp2
      go_ret
      exact ⟨rfl, m, rfl⟩
end
section
set_option linter.unusedVariables false
open Go.RowKit

theorem NumAt.row {w : World} {B n : Nat} {A : Option Addr} {xs : List Int} (h : NumAt w B A n xs) {k : Nat} {x : Int} (hx : xs[k]? = some x) :
    ∃ b o, A = some ⟨b, o, none⟩ ∧ b < B ∧ w.cell? ⟨b, o + k, none⟩ = some (.int .i64 x) := by
  have := (List.getElem?_eq_some_iff.1 hx).1
  obtain ⟨b, o, h1, h2, h3⟩ := h.2 (by have := h.1; omega)
  exact ⟨b, o, h1, h2, h3 k x hx⟩

def allWn (lo hi : Int) (xs : List Int) : Bool := xs.all fun x => decide (lo ≤ x) && decide (x ≤ hi)
theorem allWn_zero (lo hi : Int) (xs : List Int) : allWn lo hi (xs.take 0) = true := rfl
theorem allWn_step {lo hi : Int} {xs : List Int} {k : Nat} {x : Int} (h : xs[k]? = some x) (ha : allWn lo hi (xs.take k) = true) (h1 : lo ≤ x) (h2 : x ≤ hi) : allWn lo hi (xs.take (k + 1)) = true := by
  have hk := (List.getElem?_eq_some_iff.1 h).1
  have hx : xs[k] = x := (List.getElem?_eq_some_iff.1 h).2
  rw [List.take_succ_eq_append_getElem hk, hx]; unfold allWn at *; simp only [List.all_append, ha, List.all_cons, List.all_nil, decide_eq_true h1, decide_eq_true h2]; rfl
theorem allWn_stop {lo hi : Int} {xs : List Int} {k : Nat} {x : Int} (h : xs[k]? = some x) (hb : x < lo ∨ hi < x) : allWn lo hi xs = false := by
  unfold allWn; rw [List.all_eq_false]
  refine ⟨x, List.mem_of_getElem? h, ?_⟩
  rw [Bool.and_eq_true, decide_eq_true_eq, decide_eq_true_eq]; omega
theorem allWn_end {lo hi : Int} {xs : List Int} {k : Nat} (h : xs.length ≤ k) : allWn lo hi (xs.take k) = allWn lo hi xs := by rw [List.take_of_length_le h]
theorem allWn_mem {lo hi : Int} {xs : List Int} (h : allWn lo hi xs = true) {x : Int} (hx : x ∈ xs) : lo ≤ x ∧ x ≤ hi := by
  unfold allWn at h; rw [List.all_eq_true] at h
  have := h x hx
  rw [Bool.and_eq_true, decide_eq_true_eq, decide_eq_true_eq] at this; exact this

set_option maxHeartbeats 400000 in
theorem cWithin (A : Option Addr) (n c B : Nat) (xs : List Int) (lo hi : Int) (w : World) (hbig : n ≤ maxLen) (h : NumAt w B A n xs) :
    Calls Tryz.prog 175 #[.slice A n c, .int .i64 lo, .int .i64 hi] w fun e w' => e = .returned (.bool (allWn lo hi xs)) ∧ w = w' := by
  unfold maxLen at hbig
  have HL := Lib.hid h.1
  have H := Lib.hid h
  clear h
  go_enter Tryz.func175, Tryz.ntmps175
  go_wp2
  go_loop [11] (fun i => ∃ k : Nat, k ≤ n ∧ i = .int .i64 k ∧ Hid (allWn lo hi (xs.take k) = true)) (fun i => n - (intOf i).toNat)
  case atStart => exact ⟨0, Nat.zero_le _, rfl, Lib.hid (allWn_zero lo hi xs)⟩
  case round =>
    obtain ⟨k, hk, rfl, HA⟩ := hrel
    by_cases hlt : k < n
    · obtain ⟨x, hx⟩ : ∃ x, xs[k]? = some x := ⟨xs[k]'(by have := HL.out; omega), List.getElem?_eq_getElem _⟩
      obtain ⟨b, o, rfl, _, hcx⟩ := H.out.row hx
      have HX := Lib.hid hx
      clear hx
      by_cases hx0 : x < lo
      · go_wp2
        go_ret
        exact ⟨ret_bool (allWn_stop HX.out (.inl hx0)).symm, rfl⟩
      by_cases hx1 : hi < x
      · go_wp2
        go_ret
        exact ⟨ret_bool (allWn_stop HX.out (.inr hx1)).symm, rfl⟩
      go_wp2
      go_round
      case rel => exact ⟨k + 1, by omega, by go_num, Lib.hid (allWn_step HX.out HA.out (by omega) (by omega))⟩
      case measure => simp [intOf]; omega
    · go_wp2
      go_ret
      exact ⟨ret_bool (by rw [← allWn_end (k := k) (by have := HL.out; omega)]; exact HA.out.symm), rfl⟩
end
section
set_option linter.unusedVariables false
open Go.RowKit

theorem Sp.num {w : World} {A : Option Addr} {n : Nat} {xs : List Int} (h : NumAt w w.heap.size A n xs) : Sp 0 w.heap.size (fun W => NumAt W W.heap.size A n xs) w :=
  ⟨Nat.le_refl _, fun W hW => (h.below hW.below (Nat.le_refl _)).more hW.size⟩
theorem own_num {w : World} {lo n c : Nat} {A : Option Addr} {xs : List Int} (h : w.ownsRow lo 2 1 (.slice A n c) n (intV xs)) : NumAt w w.heap.size A n xs := by
  have hl : xs.length = n := by have := h.1; rw [intV_len] at this; omega
  refine ⟨hl.symm, fun hp => ?_⟩
  rcases h.2 with ⟨_, h0⟩ | ⟨g, cap, cur, hv, hg, hb, _⟩
  · omega
  · cases hv
    refine ⟨g, 0, rfl, (Array.getElem?_eq_some_iff.1 hb).1, fun j x hx => ?_⟩
    rw [Nat.zero_add]
    exact (h.cellAt j (by have := (List.getElem?_eq_some_iff.1 hx).1; omega)).trans (intV_at _ _ _ hx)
set_option maxHeartbeats 1000000 in
theorem cToI_none3 (A : Option Addr) (cap : Nat) (w : World) :
    Calls Tryz.prog 47 #[.slice A 0 cap] w fun e w' => e = .returned (.slice (some ⟨w.heap.size, 0, none⟩) 0 0) ∧ w'.ownsRow w.heap.size 2 1 (.slice (some ⟨w.heap.size, 0, none⟩) 0 0) 0 (intV []) ∧ Below w.heap.size w w' := by
  obtain ⟨i0, hi0, hz0, hz1, hz2⟩ := info_parts info_i64
  go_enter Tryz.func47, Tryz.ntmps47
  go_wp2_with (at_make; refine wpList_make_full _ rfl _ _ 49 rfl w.heap.size 2 i0 _ 1 Tryz.underlying49 hi0 hz0 hz1 _ _ _ _ 0 rfl rfl (by simp) (by simp) ?b2 ?b3 (Nat.le_refl _) ?_)
  case b2 => rw [hz2]; omega
  case b3 => unfold maxLen; omega
  intro w0 hown0 hgrow0
  rw [copyI_zero []] at hown0
  have hb0 : Below w.heap.size w w0 := (Below.refl _ _).grown hgrow0 (Nat.le_refl _) (fun k h => by cases h)
  have HO := Lib.hid hown0
  clear hown0 hgrow0
  go_wp2
  refine wp_loop_rounds 1 ?_
  rw [rounds_succ]
  go_wp2
  go_ret
  exact ⟨rfl, HO.out, hb0⟩
/-- A copy of one's own. -/
def CopyI (n : Nat) (xs : List Int) (w : World) (e : Ending) (w' : World) : Prop := ∃ A, e = .returned (.slice A n n) ∧ w'.ownsRow w.heap.size 2 1 (.slice A n n) n (intV xs) ∧ Below w.heap.size w w'
theorem uToI (A : Option Addr) (n cap : Nat) (xs : List Int) (w : World) (hbig : n ≤ 1048576) (h : NumAt w w.heap.size A n xs) :
    Calls Tryz.prog 47 #[.slice A n cap] w (CopyI n xs w) := by
  rcases Nat.eq_zero_or_pos n with rfl | hp
  · obtain rfl : xs = [] := List.eq_nil_of_length_eq_zero h.1.symm
    exact (cToI_none3 A cap w).mono fun e w' ⟨h1, h2, h3⟩ => ⟨_, h1, h2, h3⟩
  · obtain ⟨b, o, rfl, hb, hc⟩ := h.2 hp
    exact (cToI b o n cap xs w h.1 hbig hb hc).mono fun e w' ⟨h1, h2, h3⟩ => ⟨_, h1, h2, h3⟩
theorem uEqI (A A' : Option Addr) (c c' n : Nat) (xs : List Int) (w : World) (hbig : n ≤ 1048576) (h1 : NumAt w w.heap.size A n xs) (h2 : NumAt w w.heap.size A' n xs) :
    Calls Tryz.prog 48 #[.slice A n c, .slice A' n c'] w fun e w' => e = .returned (.bool true) ∧ Below w.heap.size w w' :=
  (tEqI A A' c c' n _ _ xs w hbig h1 h2).mono fun e w' ⟨he, m, hm⟩ => ⟨he, hm ▸ below_drN_r (Below.refl _ w) m⟩
/-- Marks in a row of one's own. -/
def MarkedI (lo : Nat) (A : Option Addr) (n c k : Nat) (w : World) (e : Ending) (w' : World) : Prop :=
  e = .returned (.int .i64 ((k + n : Nat) : Int)) ∧ w'.ownsRow lo 2 1 (.slice A n c) n (intV (marksI k n)) ∧ w.grownBy w' (Value.slice A n c).ownBlock
theorem own_lift {w : World} {lo s n : Nat} {t : TypeId} {v : Value} {xs ys : List Value} (h : w.ownsRow 0 t s v n xs) (hlo : ∀ k, v.ownBlock = some k → lo ≤ k) : w.ownsRow lo t s v n xs :=
  ⟨h.1, by
    rcases h.2 with h2 | ⟨g, cap, cur, h1, h2, h3⟩
    · exact .inl h2
    · exact .inr ⟨g, cap, cur, h1, hlo g (by rw [h1]; rfl), h3⟩⟩
theorem uMarkI (lo : Nat) (A : Option Addr) (n c k : Nat) (xs : List Int) (w : World) (hk : k ≤ 1073741824) (hn : n ≤ 1048576) (h : w.ownsRow lo 2 1 (.slice A n c) n (intV xs)) :
    Calls Tryz.prog 49 #[.slice A n c, .int .i64 (k : Int)] w (MarkedI lo A n c k w) :=
  (cMarkI A n c k xs w (by omega) (RowI.of h)).mono fun e w' ⟨h1, h2, h3⟩ => ⟨h1, own_lift (ys := []) h2 (fun k hk => (h.lt k hk).1), h3⟩
end
section
set_option linter.unusedVariables false
open Go.RowKit

theorem NumAt.get {w : World} {B n : Nat} {A : Option Addr} {xs : List Int} (h : NumAt w B A n xs) {k : Nat} (hk : k < n) : ∃ x, xs[k]? = some x :=
  ⟨xs[k]'(by have := h.1; omega), List.getElem?_eq_getElem _⟩

set_option maxHeartbeats 1000000 in
theorem cTree_impl (A : Option Addr) (n c B : Nat) (xs : List Int) (w : World) (hb : n ≤ maxLen) (h : NumAt w B A n xs) :
    Calls Tryz.prog 94 #[.slice A n c] w fun e w' => e = .returned (.bool (treeB xs)) ∧ ∃ m, w' = w.drewN m := by
  unfold maxLen at hb
  have HL := Lib.hid h.1
  have H := Lib.hid h
  rcases Nat.eq_zero_or_pos n with rfl | hp
  · have HF := Lib.hid (tree_short (xs := xs) h.1.symm)
    clear h
    go_enter Tryz.func94, Tryz.ntmps94
    go_wp2
    go_ret
    exact ⟨ret_bool HF.out.symm, 0, rfl⟩
  by_cases h20 : 20 < n
  · have HF := Lib.hid (tree_long (xs := xs) (by have := h.1; omega))
    clear h
    go_enter Tryz.func94, Tryz.ntmps94
    go_wp2
    go_ret
    exact ⟨ret_bool HF.out.symm, 0, rfl⟩
  obtain ⟨x0, hx0⟩ := h.get hp
  obtain ⟨b, o, rfl, hbl, hc0⟩ := h.row hx0
  rw [Nat.add_zero] at hc0
  have g1 : decide ((n : Int) < 1) = false := decide_eq_false (by omega)
  have g2 : decide ((20 : Int) < (n : Int)) = false := decide_eq_false (by omega)
  by_cases hm : x0 = -1
  · subst hm
    have HX0 := Lib.hid hx0
    clear h hx0
    go_enter Tryz.func94, Tryz.ntmps94
    go_wp2
    go_loopw [3] (fun i wr => ∃ k m : Nat, 1 ≤ k ∧ k ≤ n ∧ i = .int .i64 k ∧ Hid (okT10 xs k = true) ∧ wr = w.drewN m) (fun i _ => n - (intOf i).toNat)
    case atStart => exact ⟨1, 0, Nat.le_refl _, hp, rfl, Lib.hid (okT10_one xs), rfl⟩
    case round =>
      obtain ⟨k, m, hk1, hk, rfl, HA, rfl⟩ := hrel
      by_cases hlt : k < n
      · obtain ⟨x, hx⟩ := H.out.get hlt
        obtain ⟨b', o', e, _, hcx⟩ := H.out.row hx
        cases e
        have HX := Lib.hid hx
        clear hx
        by_cases h0 : x < 0
        · have HF := Lib.hid (tree_bad (okT10_stop HX.out (by omega) (show k < xs.length by have := HL.out; omega) (.inl h0)))
          go_wp2
          first | done | (go_quiet (fail); go_wp2) | skip
          go_ret
          exact ⟨ret_bool HF.out.symm, _, rfl⟩
        by_cases h1 : (k : Int) ≤ x
        · have HF := Lib.hid (tree_bad (okT10_stop HX.out (by omega) (show k < xs.length by have := HL.out; omega) (.inr h1)))
          go_wp2
          first | done | (go_quiet (fail); go_wp2) | skip
          go_ret
          exact ⟨ret_bool HF.out.symm, _, rfl⟩
        have HA2 := Lib.hid (okT10_step HX.out HA.out (by omega) (by omega))
        go_wp2
        first | done | (go_quiet (fail); go_wp2) | skip
        go_roundw
        case rel => exact ⟨k + 1, _, by omega, by omega, by go_num, HA2, rfl⟩
        case measure => simp [intOf]; omega
      · obtain rfl : k = n := by omega
        have HF := Lib.hid (tree_yes (xs := xs) (by have := HL.out; omega) (by have := HL.out; omega) HX0.out (by rw [← HL.out]; exact HA.out))
        go_wp2
        go_ret
        exact ⟨ret_bool HF.out.symm, _, rfl⟩
  · have HF := Lib.hid (tree_head hx0 hm)
    have hd : (x0 == -1) = false := by rw [beq_eq_false_iff_ne]; exact hm
    have hd2 : (x0 != -1) = true := by rw [bne_iff_ne]; exact hm
    clear h hx0 hm
    go_enter Tryz.func94, Tryz.ntmps94
    go_wp2
    go_ret
    exact ⟨ret_bool HF.out.symm, 0, rfl⟩

theorem in_dec (x lo hi : Int) (h : lo ≤ x ∧ x ≤ hi) : (decide (lo ≤ x) && decide (x ≤ hi)) = true := by rw [decide_eq_true h.1, decide_eq_true h.2]; rfl
theorem in_dec2 (x lo hi : Int) (h : ¬ (lo ≤ x ∧ x ≤ hi)) : (decide (lo ≤ x) && decide (x ≤ hi)) = false := by rw [← Bool.decide_and]; exact decide_eq_false h
set_option maxHeartbeats 1000000 in
theorem cTree_spec (A : Option Addr) (n c B : Nat) (xs : List Int) (w : World) (hb : n ≤ maxLen) (h : NumAt w B A n xs) :
    Calls Tryz.prog 99 #[.slice A n c] w fun e w' => e = .returned (.bool (treeB xs)) ∧ ∃ m, w' = w.drewN m := by
  unfold maxLen at hb
  have HL := Lib.hid h.1
  have H := Lib.hid h
  have CL := Lib.hid (fun (W : World) => cIn_any (n : Int) 1 20 W)
  clear h
  go_enter Tryz.func99, Tryz.ntmps99
  go_wp2
  go_loopw [3] (fun i wr => ∃ k m : Nat, 1 ≤ k ∧ (k ≤ n ∨ k = 1) ∧ i = .int .i64 k ∧ Hid (okT10 xs k = true) ∧ wr = w.drewN m) (fun i _ => n - (intOf i).toNat)
  case atStart => exact ⟨1, 0, Nat.le_refl _, .inr rfl, rfl, Lib.hid (okT10_one xs), rfl⟩
  case round =>
    obtain ⟨k, m, hk1, hk, rfl, HA, rfl⟩ := hrel
    by_cases hlt : k < n
    · obtain ⟨x, hx⟩ := H.out.get hlt
      obtain ⟨b', o', rfl, _, hcx⟩ := H.out.row hx
      have HX := Lib.hid hx
      clear hx
      have CI := Lib.hid (fun (W : World) => cIn_any x 0 ((k : Int) - 1) W)
      by_cases h0 : 0 ≤ x ∧ x ≤ (k : Int) - 1
      · rw [in_dec _ _ _ h0] at CI
        have HA2 := Lib.hid (okT10_step HX.out HA.out h0.1 (by omega))
        clear h0
        go_wp2_with (go_at_call 83; refine (CI.out _).mono ?_; rintro e w' ⟨rfl, rfl⟩)
        go_roundw
        case rel => exact ⟨k + 1, _, by omega, .inl (by omega), by go_num, HA2, rfl⟩
        case measure => simp [intOf]; omega
      · rw [in_dec2 _ _ _ h0] at CI
        have HF := Lib.hid (tree_bad (okT10_stop HX.out (by omega) (show k < xs.length by have := HL.out; omega) (by omega)))
        clear h0
        go_wp2_with (go_at_call 83; refine (CI.out _).mono ?_; rintro e w' ⟨rfl, rfl⟩)
        go_ret
        exact ⟨ret_bool HF.out.symm, _, rfl⟩
    · by_cases hl : 1 ≤ n ∧ n ≤ 20
      · rw [in_dec _ _ _ (show (1 : Int) ≤ (n : Int) ∧ (n : Int) ≤ 20 by omega)] at CL
        obtain ⟨x0, hx0⟩ := H.out.get (show 0 < n by omega)
        obtain ⟨b, o, rfl, hbl, hc0⟩ := H.out.row hx0
        rw [Nat.add_zero] at hc0
        by_cases hm : x0 = -1
        · subst hm
          obtain rfl : k = n := by omega
          have HF := Lib.hid (tree_yes (xs := xs) (by have := HL.out; omega) (by have := HL.out; omega) hx0 (by rw [← HL.out]; exact HA.out))
          clear hx0
          go_wp2_with (go_at_call 83; refine (CL.out _).mono ?_; rintro e w' ⟨rfl, rfl⟩)
          go_ret
          exact ⟨ret_bool HF.out.symm, _, rfl⟩
        · have HF := Lib.hid (tree_head hx0 hm)
          have hd : (x0 == -1) = false := by rw [beq_eq_false_iff_ne]; exact hm
          clear hx0 hm
          go_wp2_with (go_at_call 83; refine (CL.out _).mono ?_; rintro e w' ⟨rfl, rfl⟩)
          go_ret
          exact ⟨ret_bool HF.out.symm, _, rfl⟩
      · rw [in_dec2 _ _ _ (show ¬ ((1 : Int) ≤ (n : Int) ∧ (n : Int) ≤ 20) by omega)] at CL
        have HF : Hid (treeB xs = false) := Lib.hid (by
          have := HL.out
          rcases Nat.eq_zero_or_pos n with h0 | h0
          · exact tree_short (by omega)
          · exact tree_long (by omega))
        clear hl
        go_wp2_with (go_at_call 83; refine (CL.out _).mono ?_; rintro e w' ⟨rfl, rfl⟩)
        go_ret
        exact ⟨ret_bool HF.out.symm, _, rfl⟩

theorem nmem_step {ig : List Int} {k : Nat} {x y : Int} (h : ig[k]? = some y) (hn : x ∉ ig.take k) (hne : y ≠ x) : x ∉ ig.take (k + 1) := by
  have hl := (List.getElem?_eq_some_iff.1 h).1
  have hh : ig[k] = y := (List.getElem?_eq_some_iff.1 h).2
  rw [List.take_succ_eq_append_getElem hl, hh, List.mem_append, List.mem_singleton]
  rintro (h | h)
  · exact hn h
  · exact hne h.symm
theorem nmem_all {ig : List Int} {k : Nat} {x : Int} (hn : x ∉ ig.take k) (hl : ig.length ≤ k) : x ∉ ig := by rwa [List.take_of_length_le hl] at hn
set_option maxHeartbeats 400000 in
theorem cHas10 (A : Option Addr) (n c B : Nat) (ig : List Int) (x : Int) (w : World) (hbig : n ≤ maxLen) (h : NumAt w B A n ig) :
    Calls Tryz.prog 100 #[.slice A n c, .int .i64 x] w fun e w' => e = .returned (.bool (decide (x ∈ ig))) ∧ w = w' := by
  unfold maxLen at hbig
  have HL := Lib.hid h.1
  have H := Lib.hid h
  clear h
  go_enter Tryz.func100, Tryz.ntmps100
  go_wp2
  go_loop [5] (fun i => ∃ k : Nat, k ≤ n ∧ i = .int .i64 k ∧ Hid (x ∉ ig.take k)) (fun i => n - (intOf i).toNat)
  case atStart => exact ⟨0, Nat.zero_le _, rfl, Lib.hid (by simp)⟩
  case round =>
    obtain ⟨k, hk, rfl, HA⟩ := hrel
    by_cases hlt : k < n
    · obtain ⟨y, hy⟩ := H.out.get hlt
      obtain ⟨b, o, rfl, _, hcx⟩ := H.out.row hy
      have HY := Lib.hid hy
      clear hy
      by_cases he : y = x
      · have hd : (y == x) = true := by simp [he]
        have HR := Lib.hid (show decide (x ∈ ig) = true from decide_eq_true (by rw [← he]; exact List.mem_of_getElem? HY.out))
        clear he
        go_wp2
        go_ret
        exact ⟨ret_bool HR.out.symm, rfl⟩
      · have hd : (y == x) = false := by simp [he]
        have HE := Lib.hid he
        clear he
        go_wp2
        go_round
        case rel => exact ⟨k + 1, by omega, by go_num, Lib.hid (nmem_step HY.out HA.out HE.out)⟩
        case measure => simp [intOf]; omega
    · have HR := Lib.hid (show decide (x ∈ ig) = false from decide_eq_false (nmem_all HA.out (by have := HL.out; omega)))
      go_wp2
      go_ret
      exact ⟨ret_bool HR.out.symm, rfl⟩

/-- The place of a number in a list, or -1. -/
def idxZ (xs : List Int) (x : Int) : Int := if x ∈ xs then ((xs.idxOf x : Nat) : Int) else -1
theorem idxZ_no {xs : List Int} {x : Int} (h : x ∉ xs) : idxZ xs x = -1 := if_neg h
theorem idxZ_yes {xs : List Int} {x : Int} (h : x ∈ xs) : idxZ xs x = ((xs.idxOf x : Nat) : Int) := if_pos h
theorem idxOf_first : ∀ (xs : List Int) (k : Nat) (x : Int), xs[k]? = some x → x ∉ xs.take k → xs.idxOf x = k
  | [], k, x, h, _ => by simp at h
  | y :: ys, 0, x, h, _ => by
    simp at h
    rw [h, List.idxOf_cons_self]
  | y :: ys, k + 1, x, h, hn => by
    rw [List.getElem?_cons_succ] at h
    rw [List.take_succ_cons, List.mem_cons, not_or] at hn
    rw [List.idxOf_cons, idxOf_first ys k x h hn.2, show (y == x) = false by rw [beq_eq_false_iff_ne]; exact fun e => hn.1 e.symm]
    rfl
set_option maxHeartbeats 400000 in
theorem cIndex10 (A : Option Addr) (n c B : Nat) (ig : List Int) (x : Int) (w : World) (hbig : n ≤ maxLen) (h : NumAt w B A n ig) :
    Calls Tryz.prog 145 #[.slice A n c, .int .i64 x] w fun e w' => e = .returned (.int .i64 (idxZ ig x)) ∧ w = w' := by
  unfold maxLen at hbig
  have HL := Lib.hid h.1
  have H := Lib.hid h
  clear h
  go_enter Tryz.func145, Tryz.ntmps145
  go_wp2
  go_loop [5, 8] (fun u i => ∃ (k : Nat) (q : Value), u = q ∧ k ≤ n ∧ i = .int .i64 k ∧ Hid (x ∉ ig.take k)) (fun _ i => n - (intOf i).toNat)
  case atStart => exact ⟨0, _, rfl, Nat.zero_le _, rfl, Lib.hid (by simp)⟩
  case round =>
    obtain ⟨k, q, rfl, hk, rfl, HA⟩ := hrel
    by_cases hlt : k < n
    · obtain ⟨y, hy⟩ := H.out.get hlt
      obtain ⟨b, o, rfl, _, hcx⟩ := H.out.row hy
      have HY := Lib.hid hy
      clear hy
      by_cases he : y = x
      · subst he
        have hd : (y == y) = true := by simp
        have HR := Lib.hid (show idxZ ig y = (k : Int) by rw [idxZ_yes (List.mem_of_getElem? HY.out), idxOf_first ig k y HY.out HA.out])
        go_wp2
        go_ret
        exact ⟨ret_int HR.out.symm, rfl⟩
      · have hd : (x == y) = false := by rw [beq_eq_false_iff_ne]; exact fun e => he e.symm
        have HE := Lib.hid he
        clear he
        go_wp2
        go_round
        case rel => exact ⟨k + 1, _, rfl, by omega, by go_num, Lib.hid (nmem_step HY.out HA.out HE.out)⟩
        case measure => simp [intOf]; omega
    · have HR := Lib.hid (show idxZ ig x = -1 from idxZ_no (nmem_all HA.out (by have := HL.out; omega)))
      go_wp2
      go_ret
      exact ⟨ret_int HR.out.symm, rfl⟩
theorem cContains10 (A : Option Addr) (n c B : Nat) (ig : List Int) (x : Int) (w : World) (hbig : n ≤ maxLen) (h : NumAt w B A n ig) :
    Calls Tryz.prog 98 #[.slice A n c, .int .i64 x] w fun e w' => e = .returned (.bool (decide (x ∈ ig))) ∧ w = w' := by
  have CI := Lib.hid (cIndex10 A n c B ig x w hbig h)
  clear h
  by_cases hm : x ∈ ig
  · rw [decide_eq_true hm]
    rw [idxZ_yes hm] at CI
    obtain ⟨k, hk⟩ : ∃ k, k = ig.idxOf x := ⟨_, rfl⟩
    rw [← hk] at CI
    clear hm hk
    go_enter Tryz.func98, Tryz.ntmps98
    go_wp2_with (go_at_call 145; refine CI.out.mono ?_; rintro e w' ⟨rfl, rfl⟩)
    go_ret
    exact ⟨rfl, rfl⟩
  · rw [decide_eq_false hm]
    rw [idxZ_no hm] at CI
    clear hm
    go_enter Tryz.func98, Tryz.ntmps98
    go_wp2_with (go_at_call 145; refine CI.out.mono ?_; rintro e w' ⟨rfl, rfl⟩)
    go_ret
    exact ⟨rfl, rfl⟩
end
end Go.Proofs.YtglmibmjbignbaaGreatDoor
