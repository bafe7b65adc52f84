/-
  The laws' helpers on names: szName, szNameS, toName, toNameS, eqName, eqNameS, markNameS, heldNameS.
-/
import Derived.Test.YtglmibmjbignbaaGreatDoorMy5
import Derived.Test.YtglmibmjbignbaaGreatDoorMy12
import Derived.Test.YtglmibmjbignbaaGreatDoorMy9
import Derived.Deep.RegionHeld3
import Derived.Deep.DeepCutAuto
namespace Go.Proofs.YtglmibmjbignbaaGreatDoor
set_option linter.unusedVariables false
open Go.RowKit

theorem info_nm : (Tryz.prog.info? 100).map (fun i => (i.zero, i.size, i.bytes)) = some (some (.agg #[.string ByteArray.empty, .string ByteArray.empty, .int .i64 0, .int .i64 0, .int .i64 0]), 5, 56) := by kernel_rfl
def zN : Nm := ⟨ByteArray.empty, ByteArray.empty, 0, 0, 0⟩
theorem nmV_set5 : ∀ (ys : List Nm) (k : Nat) (q : Nm), k < ys.length → (((((nmV ys).set (k * 5) (.string q.t)).set (k * 5 + 1) (.string q.l)).set (k * 5 + 2) (.int .i64 q.s)).set (k * 5 + 3) (.int .i64 q.f)).set (k * 5 + 4) (.int .i64 q.u) = nmV (ys.set k q)
  | [], k, q, h => by simp at h
  | y :: ys, 0, q, h => by show _ = nmV (q :: ys); rw [nmV_cons, nmV_cons]; rfl
  | y :: ys, k + 1, q, h => by
    have ih := nmV_set5 ys k q (by simpa using h)
    rw [List.set_cons_succ, nmV_cons, nmV_cons, ← ih, show (k + 1) * 5 = k * 5 + 1 + 1 + 1 + 1 + 1 by omega]
    rfl
def copyN (xs : List Nm) (n k : Nat) : List Nm := xs.take k ++ List.replicate (n - k) zN
theorem copyN_zero (n : Nat) (xs : List Nm) : (madeCells #[Value.string ByteArray.empty, Value.string ByteArray.empty, Value.int .i64 0, Value.int .i64 0, Value.int .i64 0] (n * 5)).toList = nmV (copyN xs n 0) := by
  apply List.ext_getElem?
  intro j
  unfold copyN
  rw [List.take_zero, List.nil_append, Nat.sub_zero]
  by_cases h : j < n * 5
  · obtain ⟨q, r, rfl, hr⟩ : ∃ q r, j = q * 5 + r ∧ r < 5 := ⟨j / 5, j % 5, by omega, by omega⟩
    have hq : q < n := by omega
    have hz : (List.replicate n zN)[q]? = some zN := by simp [hq]
    have ha := nmV_at _ q _ hz
    have hmod : (q * 5 + r) % 5 = r := by omega
    match r, hr with
    | 0, _ => rw [show q * 5 + 0 = q * 5 from rfl, ha.1]; simp [madeCells, hq, zN]
    | 1, _ => rw [ha.2.1]; simp [madeCells, h, hmod, zN]
    | 2, _ => rw [ha.2.2.1]; simp [madeCells, h, hmod, zN]
    | 3, _ => rw [ha.2.2.2.1]; simp [madeCells, h, hmod, zN]
    | 4, _ => rw [ha.2.2.2.2]; simp [madeCells, h, hmod, zN]
  · rw [List.getElem?_eq_none (by simp [madeCells]; omega), List.getElem?_eq_none (by rw [nmV_len]; simp; omega)]
theorem copyN_len (xs : List Nm) (n k : Nat) (hn : n = xs.length) (hk : k ≤ n) : (copyN xs n k).length = n := by unfold copyN; rw [List.length_append, List.length_take, List.length_replicate]; omega
theorem copyN_step (xs : List Nm) (n k : Nat) (p : Nm) (hn : n = xs.length) (h : xs[k]? = some p) : (copyN xs n k).set k p = copyN xs n (k + 1) := by
  have hl := (List.getElem?_eq_some_iff.1 h).1
  unfold copyN
  rw [List.set_append_right _ _ (by rw [List.length_take]; omega), take_snoc9 h, List.append_assoc, List.length_take, show k - min k xs.length = 0 by omega]
  congr 1
  obtain ⟨d, hd⟩ : ∃ d, n - k = d + 1 := ⟨n - k - 1, by omega⟩
  rw [hd, show n - (k + 1) = d by omega, List.replicate_succ, List.set_cons_zero]
  rfl
theorem copyN_all (xs : List Nm) (n : Nat) (hn : n = xs.length) : copyN xs n n = xs := by
  unfold copyN; rw [List.take_of_length_le (by omega), Nat.sub_self]; simp

theorem frozen_at9 (w : World) (c : Array Value) (t : TypeId) (b k : Nat) (h : b = w.heap.size) : (w.alloc (.cells c t)).frozen? ⟨b, k, none⟩ = false := by
  subst h; exact World.frozen?_alloc_new _ _ _ _
set_option maxHeartbeats 1000000 in
theorem cToNm (x : Nm) (w : World) :
    Calls Tryz.prog 180 #[nmA x] w fun e w' => e = .returned (nmA x) ∧ Below w.heap.size w w' := by
  have CS := Lib.hid (cToSpan x.f x.u)
  go_enter Tryz.func180, Tryz.ntmps180
  go_wp2_with fail
  refine (CS.out _).mono ?_
  rintro e w1 ⟨rfl, hb1⟩
  have hbx := hb1
  simp only [World.size_alloc] at hbx
  have q0 : w1.cell? ⟨w.heap.size + 1 + 1, 0, none⟩ = some (.string x.t) := (hbx.cell (p := ⟨w.heap.size + 1 + 1, 0, none⟩) (by simp)).trans (by rw [World.cell?_alloc_at _ _ _ _ (by simp)]; rfl)
  have q1 : w1.cell? ⟨w.heap.size + 1 + 1, 1, none⟩ = some (.string x.l) := (hbx.cell (p := ⟨w.heap.size + 1 + 1, 1, none⟩) (by simp)).trans (by rw [World.cell?_alloc_at _ _ _ _ (by simp)]; rfl)
  have q2 : w1.cell? ⟨w.heap.size + 1 + 1, 2, none⟩ = some (.int .i64 x.s) := (hbx.cell (p := ⟨w.heap.size + 1 + 1, 2, none⟩) (by simp)).trans (by rw [World.cell?_alloc_at _ _ _ _ (by simp)]; rfl)
  have q3 : w1.cell? ⟨w.heap.size + 1 + 1, 3, none⟩ = some (.int .i64 0) := (hbx.cell (p := ⟨w.heap.size + 1 + 1, 3, none⟩) (by simp)).trans (by rw [World.cell?_alloc_at _ _ _ _ (by simp)]; rfl)
  have q4 : w1.cell? ⟨w.heap.size + 1 + 1, 4, none⟩ = some (.int .i64 0) := (hbx.cell (p := ⟨w.heap.size + 1 + 1, 4, none⟩) (by simp)).trans (by rw [World.cell?_alloc_at _ _ _ _ (by simp)]; rfl)
  have fz : ∀ k, w1.frozen? ⟨w.heap.size + 1 + 1, k, none⟩ = false := fun k => (hbx.frozen (p := ⟨w.heap.size + 1 + 1, k, none⟩) (by simp)).trans (frozen_at9 _ _ _ _ k (by simp))
  have o0 : w1.cell? ⟨w.heap.size + 1, 0, none⟩ = some (.string ByteArray.empty) := (hbx.cell (p := ⟨w.heap.size + 1, 0, none⟩) (by simp)).trans (by rw [World.cell?_alloc_lt _ _ _ (by simp), World.cell?_alloc_at _ _ _ _ (by simp)]; rfl)
  have o1 : w1.cell? ⟨w.heap.size + 1, 1, none⟩ = some (.string ByteArray.empty) := (hbx.cell (p := ⟨w.heap.size + 1, 1, none⟩) (by simp)).trans (by rw [World.cell?_alloc_lt _ _ _ (by simp), World.cell?_alloc_at _ _ _ _ (by simp)]; rfl)
  have o2 : w1.cell? ⟨w.heap.size + 1, 2, none⟩ = some (.int .i64 0) := (hbx.cell (p := ⟨w.heap.size + 1, 2, none⟩) (by simp)).trans (by rw [World.cell?_alloc_lt _ _ _ (by simp), World.cell?_alloc_at _ _ _ _ (by simp)]; rfl)
  have o3 : w1.cell? ⟨w.heap.size + 1, 3, none⟩ = some (.int .i64 0) := (hbx.cell (p := ⟨w.heap.size + 1, 3, none⟩) (by simp)).trans (by rw [World.cell?_alloc_lt _ _ _ (by simp), World.cell?_alloc_at _ _ _ _ (by simp)]; rfl)
  have o4 : w1.cell? ⟨w.heap.size + 1, 4, none⟩ = some (.int .i64 0) := (hbx.cell (p := ⟨w.heap.size + 1, 4, none⟩) (by simp)).trans (by rw [World.cell?_alloc_lt _ _ _ (by simp), World.cell?_alloc_at _ _ _ _ (by simp)]; rfl)
  have fy : ∀ k, w1.frozen? ⟨w.heap.size + 1, k, none⟩ = false := fun k => (hbx.frozen (p := ⟨w.heap.size + 1, k, none⟩) (by simp)).trans ((World.frozen?_alloc_old _ _ _ (by simp)).trans (frozen_at9 _ _ _ _ k (by simp)))
  have hbt := (((Below.refl w.heap.size w).alloc (Nat.le_refl _) (.cells #[.string x.t, .string x.l, .int .i64 x.s, .int .i64 x.f, .int .i64 x.u] 187)).alloc (by simp) (.cells #[.string ByteArray.empty, .string ByteArray.empty, .int .i64 0, .int .i64 0, .int .i64 0] 100)).alloc (by simp; omega) (.cells #[.string x.t, .string x.l, .int .i64 x.s, .int .i64 0, .int .i64 0] 100)
  have hbu := hbt.trans (hbx.mono (by omega))
  clear hb1 hbx hbt
  go_wp2_with fail
  refine bodyPost_ret (v := nmA x) ?_ rfl ⟨rfl, ?_⟩
  · simp [results, Tryz.results180, go_sem, World.cell?_setCell_other, World.cell?_setCell_same', o0, o1, o2, o3, o4]
  · go_grown

theorem szN1 (x : Nm) (r : Int) (w : World) (hr0 : 0 ≤ r) (hr1 : r ≤ 1048576) (ho : x.t.size ≤ maxLen) (hn : x.l.size ≤ maxLen) :
    Calls Tryz.prog 179 #[nmA x, .int .i64 r] w fun e w' => (∃ q : Int, e = .returned (.int .i64 q) ∧ q ≤ 1048576 ∧ (q < 0 ∨ (0 ≤ q ∧ x.t.size ≤ 1048576 ∧ x.l.size ≤ 1048576))) ∧ Below w.heap.size w w' := by
  obtain ⟨o, n, c, f, u⟩ := x
  dsimp only at ho hn
  unfold maxLen at ho hn
  have hb : Hid (Below w.heap.size w (w.alloc (.cells #[.string o, .string n, .int .i64 c, .int .i64 f, .int .i64 u] 187))) := Lib.hid ((Below.refl _ _).alloc (Nat.le_refl _) _)
  by_cases h1 : r < o.size
  · go_enter Tryz.func179, Tryz.ntmps179
    go_wp2
    go_ret
    exact ⟨⟨-1, rfl, by omega, .inl (by omega)⟩, hb.out⟩
  have h1' : (o.size : Int) ≤ r := by omega
  by_cases h2 : r - o.size < n.size
  · go_enter Tryz.func179, Tryz.ntmps179
    go_wp2
    go_ret
    exact ⟨⟨-1, rfl, by omega, .inl (by omega)⟩, hb.out⟩
  · go_enter Tryz.func179, Tryz.ntmps179
    go_wp2
    go_ret
    exact ⟨⟨r - o.size - n.size, rfl, by omega, .inr ⟨by omega, by omega, by omega⟩⟩, hb.out⟩

def SmallN (n : Nat) (xs : List Nm) (r : Int) : Prop := r ≤ 1048576 ∧ (r < 0 ∨ (n ≤ 1048576 ∧ ∀ e ∈ xs, e.t.size ≤ 1048576 ∧ e.l.size ≤ 1048576))
def SzN (n : Nat) (xs : List Nm) (w : World) (e : Ending) (w' : World) : Prop := ∃ r : Int, SmallN n xs r ∧ e = .returned (.int .i64 r) ∧ Below w.heap.size w w'
set_option maxHeartbeats 1000000 in
theorem uSzN (A : Option Addr) (n cap : Nat) (xs : List Nm) (w : World) (hm : n ≤ maxLen) (hs : ∀ e ∈ xs, e.t.size ≤ maxLen ∧ e.l.size ≤ maxLen) (h : NmAt w w.heap.size A n xs) :
    Calls Tryz.prog 148 #[.slice A n cap, .int .i64 1048576] w (SzN n xs w) := by
  unfold maxLen at hm
  have HT := Lib.hid h
  have HN := Lib.hid h.1
  have HS := Lib.hid hs
  clear h hs
  by_cases h1 : 1048576 < n
  · go_enter Tryz.func148, Tryz.ntmps148
    go_wp2
    go_ret
    exact ⟨-1, ⟨by omega, .inl (by omega)⟩, rfl, Below.refl _ _⟩
  go_enter Tryz.func148, Tryz.ntmps148
  go_wp2
  go_loopw [1, 5] (fun l i wr => ∃ (k : Nat) (r : Int), k ≤ n ∧ i = .int .i64 k ∧ l = .int .i64 r ∧ 0 ≤ r ∧ r ≤ 1048576 ∧ Hid (∀ e ∈ xs.take k, e.t.size ≤ 1048576 ∧ e.l.size ≤ 1048576) ∧ Below w.heap.size w wr) (fun _ i _ => n - (intOf i).toNat)
  case atStart => exact ⟨0, _, Nat.zero_le _, rfl, rfl, by omega, by omega, Lib.hid (by simp), Below.refl _ _⟩
  case round =>
    obtain ⟨k, r, hk, rfl, rfl, hr0, hr1, HA, hbw⟩ := hrel
    by_cases hlt : k < n
    · obtain ⟨x, hx⟩ : ∃ x, xs[k]? = some x := ⟨xs[k]'(by have := HN.out; omega), List.getElem?_eq_getElem _⟩
      obtain ⟨b, o, rfl, _, c0, c1, c2, c3, c4⟩ := (HT.out.below hbw (Nat.le_refl _)).row hx
      have hsx := HS.out x (List.mem_of_getElem? hx)
      have HZ := Lib.hid (szN1 x r wr hr0 hr1 hsx.1 hsx.2)
      have HX := Lib.hid hx
      have u1 : (0 : Int) ≤ (k : Int) := Int.natCast_nonneg _
      have u2 : (k : Int) < (n : Int) := by omega
      clear hx hsx
      go_wp2_with fail
      refine HZ.out.mono ?_
      rintro e w2 ⟨⟨q, rfl, hq1, hq2⟩, hb2⟩
      have hbt := hbw.trans (hb2.mono hbw.size)
      clear hb2
      rcases hq2 with hq2 | ⟨hq2, hq3, hq4⟩
      · go_wp2_with fail
        go_ret
        exact ⟨-1, ⟨by omega, .inl (by omega)⟩, rfl, hbt⟩
      · have HA2 : Hid (∀ e ∈ xs.take (k + 1), e.t.size ≤ 1048576 ∧ e.l.size ≤ 1048576) := Lib.hid (by
          rw [take_snoc9 HX.out]
          intro y hy
          rw [List.mem_append, List.mem_singleton] at hy
          rcases hy with hy | rfl
          · exact HA.out y hy
          · exact ⟨hq3, hq4⟩)
        clear hq3 hq4
        go_wp2_with fail
        go_roundw
        case rel => exact ⟨k + 1, q, by omega, by go_num, rfl, hq2, hq1, HA2, hbt⟩
        case measure => simp [intOf]; omega
    · have hall : xs.take k = xs := List.take_of_length_le (by have := HN.out; omega)
      have hfin : SmallN n xs r := ⟨hr1, .inr ⟨by omega, by rw [← hall]; exact HA.out⟩⟩
      have HF := Lib.hid hfin
      clear hall hfin
      go_wp2
      go_ret
      exact ⟨r, HF.out, rfl, hbw⟩

def CopyN (n : Nat) (xs : List Nm) (w : World) (e : Ending) (w' : World) : Prop := ∃ A, e = .returned (.slice A n n) ∧ w'.ownsRow w.heap.size 100 5 (.slice A n n) n (nmV xs) ∧ Below w.heap.size w w'
theorem below_set5 {B : Nat} {w w' : World} (h : Below B w w') {g : Nat} (hg : B ≤ g) (i j k l m : Nat) (x y z u v : Value) : Below B w (((((w'.setCell ⟨g, i, none⟩ x).setCell ⟨g, j, none⟩ y).setCell ⟨g, k, none⟩ z).setCell ⟨g, l, none⟩ u).setCell ⟨g, m, none⟩ v) := ((((h.setCell hg x).setCell hg y).setCell hg z).setCell hg u).setCell hg v
set_option maxHeartbeats 1000000 in
theorem uToN (A : Option Addr) (n cap : Nat) (xs : List Nm) (w : World) (hbig : n ≤ 1048576) (h : NmAt w w.heap.size A n xs) :
    Calls Tryz.prog 150 #[.slice A n cap] w (CopyN n xs w) := by
  obtain ⟨i0, hi0, hz0, hz1, hz2⟩ := info_parts info_nm
  have H := Lib.hid h
  have HN := Lib.hid h.1
  clear h
  go_enter Tryz.func150, Tryz.ntmps150
  go_wp2_with (at_make; refine wpList_make_full _ rfl _ _ 27 rfl w.heap.size 100 i0 _ 5 Tryz.underlying27 hi0 hz0 hz1 _ _ _ _ n rfl rfl (by simp) (by simp) ?b2 ?b3 (Nat.le_refl _) ?_)
  case b2 => rw [hz2]; omega
  case b3 => unfold maxLen; omega
  intro w0 hown0 hgrow0
  rw [copyN_zero n xs] at hown0
  have hb0 : Below w.heap.size w w0 := (Below.refl _ _).grown hgrow0 (Nat.le_refl _) (fun k h => by cases h)
  have HO := Lib.hid hown0
  clear hown0 hgrow0
  go_wp2
  go_loopw [4] (fun i wr => ∃ k : Nat, k ≤ n ∧ i = .int .i64 k ∧ wr.ownsRow w.heap.size 100 5 (.slice (some ⟨w.heap.size, 0, none⟩) n n) n (nmV (copyN xs n k)) ∧ Below w.heap.size w wr) (fun i _ => n - (intOf i).toNat)
  case atStart => exact ⟨0, Nat.zero_le _, rfl, HO.out, hb0⟩
  case round =>
    obtain ⟨k, hk, rfl, hown, hbw⟩ := hrel
    by_cases hlt : k < n
    · obtain ⟨p, hp⟩ : ∃ p, xs[k]? = some p := ⟨xs[k]'(by have := HN.out; omega), List.getElem?_eq_getElem _⟩
      obtain ⟨b, o, rfl, hbl, c0, c1, c2, c3, c4⟩ := (H.out.below hbw (Nat.le_refl _)).row hp
      have HP := Lib.hid hp
      have u1 : (0 : Int) ≤ (k : Int) := Int.natCast_nonneg _
      have u2 : (k : Int) < (n : Int) := by omega
      clear hp
      go_wp2_with fail
      refine (cToNm p _).mono ?_
      rintro e w1 ⟨rfl, hb1⟩
      have hown1 := hown.kept ⟨hb1.os, hb1.tape, hb1.output, hb1.size, fun j hj _ => hb1.block j hj⟩ (row := none) (by simp [Value.ownBlock])
      have hbw1 := hbw.trans (hb1.mono hbw.size)
      clear hown hbw
      have hl1 := hown1.1
      obtain ⟨v0, d0⟩ : ∃ v, w1.cell? ⟨w.heap.size, k * 5, none⟩ = some v := ⟨_, (hown1.cellAt (k * 5) (by omega)).trans (List.getElem?_eq_getElem (by omega))⟩
      obtain ⟨v1, d1⟩ : ∃ v, w1.cell? ⟨w.heap.size, k * 5 + 1, none⟩ = some v := ⟨_, (hown1.cellAt (k * 5 + 1) (by omega)).trans (List.getElem?_eq_getElem (by omega))⟩
      obtain ⟨v2, d2⟩ : ∃ v, w1.cell? ⟨w.heap.size, k * 5 + 2, none⟩ = some v := ⟨_, (hown1.cellAt (k * 5 + 2) (by omega)).trans (List.getElem?_eq_getElem (by omega))⟩
      obtain ⟨v3, d3⟩ : ∃ v, w1.cell? ⟨w.heap.size, k * 5 + 3, none⟩ = some v := ⟨_, (hown1.cellAt (k * 5 + 3) (by omega)).trans (List.getElem?_eq_getElem (by omega))⟩
      obtain ⟨v4, d4⟩ : ∃ v, w1.cell? ⟨w.heap.size, k * 5 + 4, none⟩ = some v := ⟨_, (hown1.cellAt (k * 5 + 4) (by omega)).trans (List.getElem?_eq_getElem (by omega))⟩
      have f0 := hown1.frozenAt (k * 5)
      have f1 := hown1.frozenAt (k * 5 + 1)
      have f2 := hown1.frozenAt (k * 5 + 2)
      have f3 := hown1.frozenAt (k * 5 + 3)
      have f4 := hown1.frozenAt (k * 5 + 4)
      have hst := (((((hown1.stored (k * 5) (.string p.t)).1.stored (k * 5 + 1) (.string p.l)).1.stored (k * 5 + 2) (.int .i64 p.s)).1.stored (k * 5 + 3) (.int .i64 p.f)).1.stored (k * 5 + 4) (.int .i64 p.u)).1
      have hcs := nmV_set5 (copyN xs n k) k p (by rw [copyN_len xs n k HN.out (by omega)]; exact hlt)
      rw [copyN_step xs n k p HN.out HP.out] at hcs
      rw [hcs] at hst
      have hbw2 := below_set5 hbw1 (Nat.le_refl w.heap.size) (k * 5) (k * 5 + 1) (k * 5 + 2) (k * 5 + 3) (k * 5 + 4) (.string p.t) (.string p.l) (.int .i64 p.s) (.int .i64 p.f) (.int .i64 p.u)
      clear hl1 hown1 hcs
      go_wp2_with fail
      go_roundw
      case rel => exact ⟨k + 1, by omega, by go_num, hst, hbw2⟩
      case measure => simp [intOf]; omega
    · obtain rfl : k = n := by omega
      rw [copyN_all xs k HN.out] at hown
      go_wp2
      go_ret
      exact ⟨_, rfl, hown, hbw⟩

theorem cEqSp9 (x y : Int) (w : World) :
    Calls Tryz.prog 151 #[.agg #[.int .i64 x, .int .i64 y], .agg #[.int .i64 x, .int .i64 y]] w fun e w' => e = .returned (.bool true) ∧ Below w.heap.size w w' := by
  have hx : (x != x) = false := by simp
  have hy : (y != y) = false := by simp
  go_enter Tryz.func151, Tryz.ntmps151
  go_wp2
  go_ret
  exact ⟨rfl, ((Below.refl _ _).alloc (Nat.le_refl _) _).alloc (by simp) _⟩
theorem cEqNm (x : Nm) (w : World) :
    Calls Tryz.prog 181 #[nmA x, nmA x] w fun e w' => e = .returned (.bool true) ∧ Below w.heap.size w w' := by
  have hz : (x.s != x.s) = false := by simp
  have h1 : (x.t.toList != x.t.toList) = false := by simp
  have h2 : (x.l.toList != x.l.toList) = false := by simp
  have CS := Lib.hid (cEqSp9 x.f x.u)
  go_enter Tryz.func181, Tryz.ntmps181
  go_wp2_with fail
  refine (CS.out _).mono ?_
  rintro e w1 ⟨rfl, hb1⟩
  have hbt := (((Below.refl w.heap.size w).alloc (Nat.le_refl _) (.cells #[.string x.t, .string x.l, .int .i64 x.s, .int .i64 x.f, .int .i64 x.u] 100)).alloc (by simp) (.cells #[.string x.t, .string x.l, .int .i64 x.s, .int .i64 x.f, .int .i64 x.u] 100)).trans (hb1.mono (by simp; omega))
  go_wp2_with fail
  go_ret
  exact ⟨rfl, hbt⟩

set_option maxHeartbeats 1000000 in
set_option maxRecDepth 100000 in
theorem uEqN (A A' : Option Addr) (n cap cap' : Nat) (xs : List Nm) (w : World) (hbig : n ≤ 1048576) (h1 : NmAt w w.heap.size A n xs) (h2 : NmAt w w.heap.size A' n xs) :
    Calls Tryz.prog 152 #[.slice A n cap, .slice A' n cap'] w fun e w' => e = .returned (.bool true) ∧ Below w.heap.size w w' := by
  have H1 := Lib.hid h1
  have H2 := Lib.hid h2
  have HN := Lib.hid h1.1
  clear h1 h2
  go_enter Tryz.func152, Tryz.ntmps152
  go_wp2
  go_loopw [5] (fun i wr => ∃ j : Nat, j ≤ n ∧ i = .int .i64 j ∧ Below w.heap.size w wr) (fun i _ => n - (intOf i).toNat)
  case atStart => exact ⟨0, Nat.zero_le _, rfl, Below.refl _ _⟩
  case round =>
    obtain ⟨j, hj, rfl, hbw⟩ := hrel
    by_cases hlt : j < n
    · obtain ⟨p, hp⟩ : ∃ p, xs[j]? = some p := ⟨xs[j]'(by have := HN.out; omega), List.getElem?_eq_getElem _⟩
      obtain ⟨b, o, rfl, hbl, c0, c1, c2, c3, c4⟩ := (H1.out.below hbw (Nat.le_refl _)).row hp
      obtain ⟨b', o', rfl, hbl', d0, d1, d2, d3, d4⟩ := (H2.out.below hbw (Nat.le_refl _)).row hp
      have l1 := Nat.lt_of_lt_of_le hbl hbw.size
      have l2 := Nat.lt_of_lt_of_le hbl' hbw.size
      have HB := Lib.hid hbw
      have u1 : (0 : Int) ≤ (j : Int) := Int.natCast_nonneg _
      have u2 : (j : Int) < (n : Int) := by omega
      clear hp hbw
      go_wp2_with fail
      obtain ⟨T, f, t0, hT, ht0, hf, hback⟩ := class_of wr
      have k0 : ∀ t, (f t).cell? ⟨b, o + j * 5, none⟩ = some (.string p.t) := fun t => ((hf t).cell (p := ⟨b, o + j * 5, none⟩) l1).trans c0
      have k1 : ∀ t, (f t).cell? ⟨b, o + j * 5 + 1, none⟩ = some (.string p.l) := fun t => ((hf t).cell (p := ⟨b, o + j * 5 + 1, none⟩) l1).trans c1
      have k2 : ∀ t, (f t).cell? ⟨b, o + j * 5 + 2, none⟩ = some (.int .i64 p.s) := fun t => ((hf t).cell (p := ⟨b, o + j * 5 + 2, none⟩) l1).trans c2
      have k3 : ∀ t, (f t).cell? ⟨b, o + j * 5 + 3, none⟩ = some (.int .i64 p.f) := fun t => ((hf t).cell (p := ⟨b, o + j * 5 + 3, none⟩) l1).trans c3
      have k4 : ∀ t, (f t).cell? ⟨b, o + j * 5 + 4, none⟩ = some (.int .i64 p.u) := fun t => ((hf t).cell (p := ⟨b, o + j * 5 + 4, none⟩) l1).trans c4
      have m0 : ∀ t, (f t).cell? ⟨b', o' + j * 5, none⟩ = some (.string p.t) := fun t => ((hf t).cell (p := ⟨b', o' + j * 5, none⟩) l2).trans d0
      have m1 : ∀ t, (f t).cell? ⟨b', o' + j * 5 + 1, none⟩ = some (.string p.l) := fun t => ((hf t).cell (p := ⟨b', o' + j * 5 + 1, none⟩) l2).trans d1
      have m2 : ∀ t, (f t).cell? ⟨b', o' + j * 5 + 2, none⟩ = some (.int .i64 p.s) := fun t => ((hf t).cell (p := ⟨b', o' + j * 5 + 2, none⟩) l2).trans d2
      have m3 : ∀ t, (f t).cell? ⟨b', o' + j * 5 + 3, none⟩ = some (.int .i64 p.f) := fun t => ((hf t).cell (p := ⟨b', o' + j * 5 + 3, none⟩) l2).trans d3
      have m4 : ∀ t, (f t).cell? ⟨b', o' + j * 5 + 4, none⟩ = some (.int .i64 p.u) := fun t => ((hf t).cell (p := ⟨b', o' + j * 5 + 4, none⟩) l2).trans d4
      have CE := Lib.hid (cEqNm p)
      have HF := Lib.hid hf
      have HK := Lib.hid hback
      clear hf hback
      refine wp_region_class f t0 ht0 (by kernel_rfl) (by kernel_rfl) ?_
      clear ht0
      repeat (go_big_quiet_step (first | (go_at_call 181; exact Calls.class_of HF.out HK.out (CE.out _))))
      refine wpQuiet_nil ?_
      rintro w' ⟨t, rfl⟩
      have hbt := HB.out.trans ((HF.out t).mono HB.out.size)
      go_wp2
      go_roundw
      case rel => exact ⟨j + 1, by omega, by go_num, hbt⟩
      case measure => simp [intOf]; omega
    · go_wp2
      go_ret
      exact ⟨rfl, hbw⟩
theorem Sp.nm {w : World} {A : Option Addr} {n : Nat} {xs : List Nm} (h : NmAt w w.heap.size A n xs) : Sp 0 w.heap.size (fun W => NmAt W W.heap.size A n xs) w :=
  ⟨Nat.le_refl _, fun W hW => (h.below hW.below (Nat.le_refl _)).more hW.size⟩
end Go.Proofs.YtglmibmjbignbaaGreatDoor
