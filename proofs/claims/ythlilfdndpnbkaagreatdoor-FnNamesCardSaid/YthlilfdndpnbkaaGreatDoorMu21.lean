/-
  What a walk is told of a name that came in by value, and of a slice of names that came in.
-/
import Derived.Test.YthlilfdndpnbkaaGreatDoorMu7
import Derived.Test.YthlilfdndpnbkaaGreatDoorMu2
import Derived.Deep.Slices
import Derived.Deep.Fields
import Derived.Deep.Strs
import Derived.ChangeSame
import Derived.Lib.SmallJoins
import Derived.Below
import Derived.WalkKit
import Derived.Test.YthlilfdndpnbkaaGreatDoorChecked
import Derived.Test.YthlilfdndpnbkaaGreatDoorMu17
import Derived.Test.YthlilfdndpnbkaaGreatDoorMu11
import Derived.Deep.RegionHeld3
import Derived.Deep.DeepCutAuto
import Derived.Test.YthlilfdndpnbkaaGreatDoorMu10
import Derived.Deep.RegionLaw
import Derived.Lib.SliceRun
import Derived.Deep.Onto
namespace Go.Proofs.YthlilfdndpnbkaaGreatDoor
section
set_option linter.unusedVariables false
open Go.ChangeShapes Go.WideShapes Go.Deep Go.RowKit

theorem exists_listN {α : Type} {Q : Nat → α → Prop} : ∀ (n : Nat), (∀ i, i < n → ∃ p, Q i p) → ∃ l : List α, l.length = n ∧ ∀ (i : Nat) p, l[i]? = some p → Q i p
  | 0, _ => ⟨[], rfl, fun i p h => by simp at h⟩
  | n + 1, h => by
    obtain ⟨l, hl, hq⟩ := exists_listN n (fun i hi => h i (by omega))
    obtain ⟨p, hp⟩ := h n (by omega)
    refine ⟨l ++ [p], by simp [hl], fun i q hi => ?_⟩
    by_cases hlt : i < n
    · rw [List.getElem?_append_left (by omega)] at hi; exact hq i q hi
    · rw [List.getElem?_append_right (by omega)] at hi
      have hil := (List.getElem?_eq_some_iff.1 hi).1
      simp at hil
      have hin : i = n := by omega
      subst hin
      rw [hl, Nat.sub_self] at hi
      obtain rfl : p = q := by simpa using hi
      exact hp
theorem array5 {α : Type} {cs : Array α} (h : cs.size = 5) : ∃ c0 c1 c2 c3 c4, cs = #[c0, c1, c2, c3, c4] := by
  obtain ⟨l⟩ := cs
  match l, h with
  | [c0, c1, c2, c3, c4], _ => exact ⟨c0, c1, c2, c3, c4, rfl⟩
theorem list5A {α : Type} {cs : List α} (h : cs.length = 5) : ∃ c0 c1 c2 c3 c4, cs = [c0, c1, c2, c3, c4] := by
  match cs, h with
  | [c0, c1, c2, c3, c4], _ => exact ⟨c0, c1, c2, c3, c4, rfl⟩
section
variable {H : Type} {enc : TypeId × Value → H} {w : World} {base : Nat} {held : Bool} {spare : Nat → Bool}
end
end
section
set_option linter.unusedVariables false
open Go.RowKit

theorem info_nm : (Tryz.prog.info? 27).map (fun i => (i.zero, i.size, i.bytes)) = some (some (.agg #[.string ByteArray.empty, .string ByteArray.empty, .int .i64 0, .int .i64 0, .int .i64 0]), 5, 56) := by kernel_rfl
def zN : Nm := ⟨ByteArray.empty, ByteArray.empty, 0, 0, 0⟩
theorem nmV_set5 : ∀ (ys : List Nm) (k : Nat) (q : Nm), k < ys.length → (((((nmV ys).set (k * 5) (.string q.t)).set (k * 5 + 1) (.string q.l)).set (k * 5 + 2) (.int .i64 q.s)).set (k * 5 + 3) (.int .i64 q.f)).set (k * 5 + 4) (.int .i64 q.u) = nmV (ys.set k q)
  | [], k, q, h => by simp at h
  | y :: ys, 0, q, h => by show _ = nmV (q :: ys); rw [nmV_cons, nmV_cons]; rfl
  | y :: ys, k + 1, q, h => by
    have ih := nmV_set5 ys k q (by simpa using h)
    rw [List.set_cons_succ, nmV_cons, nmV_cons, ← ih, show (k + 1) * 5 = k * 5 + 1 + 1 + 1 + 1 + 1 by omega]
    rfl
def copyN (xs : List Nm) (n k : Nat) : List Nm := xs.take k ++ List.replicate (n - k) zN
theorem copyN_zero (n : Nat) (xs : List Nm) : (madeCells #[Value.string ByteArray.empty, Value.string ByteArray.empty, Value.int .i64 0, Value.int .i64 0, Value.int .i64 0] (n * 5)).toList = nmV (copyN xs n 0) := by
  apply List.ext_getElem?
  intro j
  unfold copyN
  rw [List.take_zero, List.nil_append, Nat.sub_zero]
  by_cases h : j < n * 5
  · obtain ⟨q, r, rfl, hr⟩ : ∃ q r, j = q * 5 + r ∧ r < 5 := ⟨j / 5, j % 5, by omega, by omega⟩
    have hq : q < n := by omega
    have hz : (List.replicate n zN)[q]? = some zN := by simp [hq]
    have ha := nmV_at _ q _ hz
    have hmod : (q * 5 + r) % 5 = r := by omega
    match r, hr with
    | 0, _ => rw [show q * 5 + 0 = q * 5 from rfl, ha.1]; simp [madeCells, hq, zN]
    | 1, _ => rw [ha.2.1]; simp [madeCells, h, hmod, zN]
    | 2, _ => rw [ha.2.2.1]; simp [madeCells, h, hmod, zN]
    | 3, _ => rw [ha.2.2.2.1]; simp [madeCells, h, hmod, zN]
    | 4, _ => rw [ha.2.2.2.2]; simp [madeCells, h, hmod, zN]
  · rw [List.getElem?_eq_none (by simp [madeCells]; omega), List.getElem?_eq_none (by rw [nmV_len]; simp; omega)]
theorem copyN_len (xs : List Nm) (n k : Nat) (hn : n = xs.length) (hk : k ≤ n) : (copyN xs n k).length = n := by unfold copyN; rw [List.length_append, List.length_take, List.length_replicate]; omega
theorem copyN_step (xs : List Nm) (n k : Nat) (p : Nm) (hn : n = xs.length) (h : xs[k]? = some p) : (copyN xs n k).set k p = copyN xs n (k + 1) := by
  have hl := (List.getElem?_eq_some_iff.1 h).1
  unfold copyN
  rw [List.set_append_right _ _ (by rw [List.length_take]; omega), take_snoc9 h, List.append_assoc, List.length_take, show k - min k xs.length = 0 by omega]
  congr 1
  obtain ⟨d, hd⟩ : ∃ d, n - k = d + 1 := ⟨n - k - 1, by omega⟩
  rw [hd, show n - (k + 1) = d by omega, List.replicate_succ, List.set_cons_zero]
  rfl
theorem copyN_all (xs : List Nm) (n : Nat) (hn : n = xs.length) : copyN xs n n = xs := by
  unfold copyN; rw [List.take_of_length_le (by omega), Nat.sub_self]; simp

theorem frozen_at9 (w : World) (c : Array Value) (t : TypeId) (b k : Nat) (h : b = w.heap.size) : (w.alloc (.cells c t)).frozen? ⟨b, k, none⟩ = false := by
  subst h; exact World.frozen?_alloc_new _ _ _ _
def SmallN (n : Nat) (xs : List Nm) (r : Int) : Prop := r ≤ 1048576 ∧ (r < 0 ∨ (n ≤ 1048576 ∧ ∀ e ∈ xs, e.t.size ≤ 1048576 ∧ e.l.size ≤ 1048576))
def SzN (n : Nat) (xs : List Nm) (w : World) (e : Ending) (w' : World) : Prop := ∃ r : Int, SmallN n xs r ∧ e = .returned (.int .i64 r) ∧ Below w.heap.size w w'
def CopyN (n : Nat) (xs : List Nm) (w : World) (e : Ending) (w' : World) : Prop := ∃ A, e = .returned (.slice A n n) ∧ w'.ownsRow w.heap.size 27 5 (.slice A n n) n (nmV xs) ∧ Below w.heap.size w w'
theorem below_set5 {B : Nat} {w w' : World} (h : Below B w w') {g : Nat} (hg : B ≤ g) (i j k l m : Nat) (x y z u v : Value) : Below B w (((((w'.setCell ⟨g, i, none⟩ x).setCell ⟨g, j, none⟩ y).setCell ⟨g, k, none⟩ z).setCell ⟨g, l, none⟩ u).setCell ⟨g, m, none⟩ v) := ((((h.setCell hg x).setCell hg y).setCell hg z).setCell hg u).setCell hg v
theorem Sp.nm {w : World} {A : Option Addr} {n : Nat} {xs : List Nm} (h : NmAt w w.heap.size A n xs) : Sp 0 w.heap.size (fun W => NmAt W W.heap.size A n xs) w :=
  ⟨Nat.le_refl _, fun W hW => (h.below hW.below (Nat.le_refl _)).more hW.size⟩
end
section
set_option linter.unusedVariables false
open Go.RowKit Go.Lib

def setL : List Value → Nat → List Value → List Value
  | xs, _, [] => xs
  | xs, o, v :: vs => setL (xs.set o v) (o + 1) vs
theorem setL_len : ∀ (vs : List Value) (o : Nat) (xs : List Value), (setL xs o vs).length = xs.length
  | [], _, _ => rfl
  | v :: vs, o, xs => by unfold setL; rw [setL_len vs]; simp
theorem setL_at : ∀ (vs : List Value) (o : Nat) (xs : List Value) (i : Nat), o + vs.length ≤ xs.length → (setL xs o vs)[i]? = if o ≤ i ∧ i < o + vs.length then vs[i - o]? else xs[i]?
  | [], o, xs, i, _ => by rw [if_neg (by simp only [List.length_nil]; omega)]; rfl
  | v :: vs, o, xs, i, h => by
    unfold setL
    rw [setL_at vs (o + 1) (xs.set o v) i (by simp at h ⊢; omega), List.getElem?_set]
    simp only [List.length_cons] at h ⊢
    by_cases h1 : o + 1 ≤ i ∧ i < o + 1 + vs.length
    · rw [if_pos h1, if_pos ⟨by omega, by omega⟩, show i - o = (i - (o + 1)) + 1 by omega, List.getElem?_cons_succ]
    · rw [if_neg h1]
      by_cases h2 : o = i
      · subst h2
        rw [if_pos rfl, if_pos (by omega), if_pos ⟨Nat.le_refl _, by omega⟩, Nat.sub_self]
        rfl
      · rw [if_neg h2, if_neg (by omega)]
theorem stored_cells9 {base g n cap sz : Nat} {e : TypeId} : ∀ (vs : List Value) (o : Nat) (w : World) (xs : List Value), w.ownsRow base e sz (.slice (some ⟨g, 0, none⟩) n cap) n xs →
    (w.setCells g o vs).ownsRow base e sz (.slice (some ⟨g, 0, none⟩) n cap) n (setL xs o vs) ∧ w.grownBy (w.setCells g o vs) (some g)
  | [], o, w, xs, h => ⟨h, World.grownBy.refl _ _⟩
  | v :: vs, o, w, xs, h => by
    have h1 := h.stored o v
    have h2 := stored_cells9 vs (o + 1) (w.setCell ⟨g, o, none⟩ v) (xs.set o v) h1.1
    exact ⟨h2.1, h1.2.trans h2.2⟩
theorem nm_one9 (xs : List Nm) : ∀ u ∈ nmV xs, u.oneCell' = true := fun u hu => by
  unfold nmV at hu
  obtain ⟨x, _, hx⟩ := List.mem_flatMap.1 hu
  unfold encN at hx
  simp at hx
  rcases hx with rfl | rfl | rfl | rfl | rfl <;> rfl
/-- What is left of a row of names when one is taken out in place. -/
theorem del_cells (xs : List Nm) (n k : Nat) (zs : List Value) (hn : xs.length = n) (hk : k < n) (hz : zs.length = 5) :
    (setL (setL (nmV xs) (k * 5) (nmV (xs.drop (k + 1)))) ((n - 1) * 5) zs).take ((n - 1) * 5) = nmV (xs.eraseIdx k) := by
  have hl := nmV_len xs
  have hld := nmV_len (xs.drop (k + 1))
  rw [List.length_drop] at hld
  have hlt := nmV_len (xs.take k)
  rw [List.length_take] at hlt
  rw [List.eraseIdx_eq_take_drop_succ, nmV_app]
  apply List.ext_getElem?
  intro i
  rw [List.getElem?_take]
  by_cases hi : i < (n - 1) * 5
  · rw [if_pos hi, setL_at _ _ _ _ (by rw [setL_len, hl, hz]; omega), if_neg (by omega), setL_at _ _ _ _ (by rw [hl, hld]; omega)]
    by_cases h2 : k * 5 ≤ i
    · rw [if_pos ⟨h2, by rw [hld]; omega⟩, List.getElem?_append_right (by omega)]
      congr 1; omega
    · rw [if_neg (by omega), List.getElem?_append_left (by omega)]
      have : nmV xs = nmV (xs.take k) ++ nmV (xs.drop k) := by rw [← nmV_app, List.take_append_drop]
      rw [this, List.getElem?_append_left (by omega)]
  · rw [if_neg hi, List.getElem?_eq_none (by rw [List.length_append]; omega)]

theorem own_prefix9 {w : World} {base g n cap m s : Nat} {e : TypeId} {xs : List Value} (h : w.ownsRow base e s (.slice (some ⟨g, 0, none⟩) n cap) n xs) (hm : m ≤ n) :
    w.ownsRow base e s (.slice (some ⟨g, 0, none⟩) m cap) m (xs.take (m * s)) := by
  rcases h.2 with ⟨hv, _⟩ | ⟨g', cap', cur, hv, h1, h2, h3, h4, h5, h6⟩
  · cases hv
  · cases hv
    have hle : m * s ≤ n * s := Nat.mul_le_mul_right _ hm
    refine ⟨by rw [List.length_take]; have := h.1; omega, .inr ⟨g, cap, cur, rfl, h1, h2, by omega, h4, h5, ?_⟩⟩
    rw [← h6, List.take_take, Nat.min_eq_left hle]


def zN5 : List Value := [.string ByteArray.empty, .string ByteArray.empty, .int .i64 0, .int .i64 0, .int .i64 0]
theorem clear9 (w : World) (ty : TypeId) (b o c : Nat) (hc : ∀ j, j < 5 → (w.cell? ⟨b, o + j, none⟩).isSome = true) (hf : ∀ j, j < 5 → w.frozen? ⟨b, o + j, none⟩ = false) :
    (Builtin.clear_ #[35] ty #[.slice (some ⟨b, o, none⟩) 1 c]).run Tryz.prog w = .ok (.tuple #[]) (w.setCells b o zN5) := by
  have hst := run_storeCells_cells (P := Tryz.prog) b o zN5 0 w (by intro j hj; exact hc j hj) (by intro j hj; exact hf j hj) (by intro v hv; unfold zN5 at hv; simp at hv; rcases hv with rfl | rfl <;> rfl)
  simp only [Nat.add_zero] at hst
  have hzc : (Builtin.zeroCells (Value.agg #[.string ByteArray.empty, .string ByteArray.empty, .int .i64 0, .int .i64 0, .int .i64 0]).cells 1).toList = zN5 := by kernel_rfl
  have hv : ∀ w, (zeroValue 27).run Tryz.prog w = .ok (.agg #[.string ByteArray.empty, .string ByteArray.empty, .int .i64 0, .int .i64 0, .int .i64 0]) w := Tryz.zeroValue27
  simp [Builtin.clear_, run_underlying Tryz.underlying35, hv, hzc, hst]

set_option maxHeartbeats 4000000 in
set_option maxRecDepth 100000 in
theorem cDelete9 (lo g n cap k : Nat) (xs : List Nm) (w : World) (hb : n ≤ 1048576) (hk : k < n) (h : w.ownsRow lo 27 5 (.slice (some ⟨g, 0, none⟩) n cap) n (nmV xs)) :
    Calls Tryz.prog 103 #[.slice (some ⟨g, 0, none⟩) n cap, .int .i64 (k : Int), .int .i64 ((k : Int) + 1)] w fun e w' => e = .returned (.slice (some ⟨g, 0, none⟩) (n - 1) cap) ∧ w'.ownsRow lo 27 5 (.slice (some ⟨g, 0, none⟩) (n - 1) cap) (n - 1) (nmV (xs.eraseIdx k)) ∧ w.grownBy w' (some g) := by
  obtain ⟨i0, hi0, hz0, hz1, hz2⟩ := info_parts info_nm
  have hxl : xs.length = n := by have := h.1; rw [nmV_len] at this; omega
  have hld : (nmV (xs.drop (k + 1))).length = (n - (k + 1)) * 5 := by rw [nmV_len, List.length_drop, hxl]
  have hnc : n ≤ cap := by
    rcases h.2 with ⟨hv, _⟩ | ⟨g', cap', cur, hv, _, _, h3, _⟩
    · cases hv
    · have : cap = cap' := by injection hv
      rw [this]; exact h3
  obtain ⟨j, hj⟩ : ∃ j, j = k + 1 := ⟨_, rfl⟩
  rw [show ((k : Int) + 1) = (j : Int) by omega]
  rw [← hj] at hld
  obtain ⟨news, hnews⟩ : ∃ news, news = nmV (xs.drop j) := ⟨_, rfl⟩
  rw [← hnews] at hld
  obtain ⟨A, hA, hsrc⟩ : ∃ A : Addr, (if cap = j then some (⟨g, 0, none⟩ : Addr) else some ⟨g, j * 5, none⟩) = some A ∧ Hid (∀ t u, news[t]? = some u → w.drew.cell? (A.add t) = some u) := by
    by_cases hcj : cap = j
    · refine ⟨⟨g, 0, none⟩, by simp [hcj], Lib.hid (fun t u hu => ?_)⟩
      have h0 : news.length = 0 := by rw [hld]; omega
      rw [List.length_eq_zero_iff.1 h0] at hu
      simp at hu
    · refine ⟨⟨g, j * 5, none⟩, by simp [hcj], Lib.hid (fun t u hu => ?_)⟩
      have ht := (List.getElem?_eq_some_iff.1 hu).1
      rw [Addr.add_lit]
      refine (World.ownsRow.cellAt h (j * 5 + t) (by omega)).trans ?_
      have : nmV xs = nmV (xs.take j) ++ nmV (xs.drop j) := by rw [← nmV_app, List.take_append_drop]
      rw [this, List.getElem?_append_right (by rw [nmV_len, List.length_take]; omega), ← hnews, ← hu]
      congr 1
      rw [nmV_len, List.length_take]; omega
  have s1 : Hid (news.length = (n - j) * 5) := Lib.hid hld
  have s2 : Hid (∀ u ∈ news, u.oneCell' = true) := Lib.hid (by rw [hnews]; exact nm_one9 _)
  have s3 : Hid (∀ t, t < news.length → (w.drew.cell? ⟨g, 0 + k * 5 + t, none⟩).isSome = true ∧ w.drew.frozen? ⟨g, 0 + k * 5 + t, none⟩ = false) := Lib.hid (fun t ht => by
    rw [hld] at ht
    have hl := nmV_len xs
    refine ⟨?_, World.ownsRow.frozenAt h _⟩
    show (w.cell? _).isSome = true
    rw [World.ownsRow.cellAt h (0 + k * 5 + t) (by omega), List.getElem?_eq_getElem (by omega)]; rfl)
  obtain ⟨W1, hW1⟩ : ∃ W1, W1 = w.drew.setCells g (0 + k * 5) news := ⟨_, rfl⟩
  have hr1 := stored_cells9 news (0 + k * 5) w.drew (nmV xs) h
  rw [← hW1] at hr1
  have hq : k + (n - j) = n - 1 := by omega
  have hcl : ∀ ty c, (Builtin.clear_ #[35] ty #[.slice (some ⟨g, (n - 1) * 5, none⟩) 1 c]).run Tryz.prog W1 = .ok (.tuple #[]) (W1.setCells g ((n - 1) * 5) zN5) := fun ty c => clear9 W1 ty g ((n - 1) * 5) c
    (fun t ht => by
      have hl := hr1.1.1
      rw [World.ownsRow.cellAt hr1.1 ((n - 1) * 5 + t) (by omega), List.getElem?_eq_getElem (by omega)]; rfl)
    (fun t ht => World.ownsRow.frozenAt hr1.1 _)
  have hcl2 : ∀ ty, (Builtin.clear_ #[35] ty #[.slice (some ⟨g, (k + (n - j)) * 5, none⟩) (n - (k + (n - j))) (cap - (k + (n - j)))]).run Tryz.prog W1 = .ok (.tuple #[]) (W1.setCells g ((n - 1) * 5) zN5) := fun ty => by rw [hq, show n - (n - 1) = 1 by omega]; exact hcl ty _
  clear hcl
  have hr2 := stored_cells9 zN5 ((n - 1) * 5) W1 _ hr1.1
  have hown := own_prefix9 hr2.1 (m := n - 1) (by omega)
  rw [hnews, hj, Nat.zero_add, del_cells xs n k zN5 hxl hk rfl] at hown
  have HOWN := Lib.hid hown
  have HGR : Hid (w.grownBy (W1.setCells g ((n - 1) * 5) zN5) (some g)) := Lib.hid ((show w.grownBy w.drew (some g) from ⟨rfl, rfl, rfl, Nat.le_refl _, fun _ _ _ => rfl⟩).trans (hr1.2.trans hr2.2))
  have hW : Hid (W1 = w.drew.setCells g (0 + k * 5) news) := Lib.hid hW1
  have hne : ¬ k = j := by omega
  have hkj : k ≤ j := by omega
  have hjn : j ≤ n := by omega
  have hkc : k ≤ cap := by omega
  have hjc : j ≤ cap := by omega
  have HQ := Lib.hid hq
  have HJ := Lib.hid hj
  have HNC := Lib.hid hnc
  clear hW1 hr1 hr2 hown hnews hld h hj hxl hq
  go_enter Tryz.func103, Tryz.ntmps103
  go_wp2_with fail
  go_region_law (refine step_append_room rfl (.tmp 22) (.tmp 25) 35 rfl 27 i0 5 Tryz.underlying35 hi0 hz1 g 0 k cap (by simp [Act.eval, Act.put]) A (n - j) (cap - j) news (by simp [Act.eval, Act.put]) s1.out hsrc.out s2.out (by omega) s3.out ?_; rw [← hW.out])
  go_wp2
  go_ret
  exact ⟨by rw [← HQ.out]; rfl, HOWN.out, HGR.out⟩
end
end Go.Proofs.YthlilfdndpnbkaaGreatDoor
