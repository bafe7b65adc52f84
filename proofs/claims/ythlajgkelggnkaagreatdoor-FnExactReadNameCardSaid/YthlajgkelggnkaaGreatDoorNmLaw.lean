/-
  The laws' helpers on names: szName, szNameS, toName, toNameS, eqName, eqNameS, markNameS, heldNameS.
-/
import Derived.Test.YthlajgkelggnkaaGreatDoorNmPlain
import Derived.Test.YthlajgkelggnkaaGreatDoorNmArgs
import Derived.Test.YthlajgkelggnkaaGreatDoorSp
import Derived.Test.YthlajgkelggnkaaGreatDoorMarkS
import Derived.Test.YthlajgkelggnkaaGreatDoorClass
import Derived.Deep.RegionHeld3
import Derived.Deep.DeepCutAuto
namespace Go.Proofs.YthlajgkelggnkaaGreatDoor
set_option linter.unusedVariables false
open Go.RowKit

theorem info_nm : (Tryz.prog.info? 27).map (fun i => (i.zero, i.size, i.bytes)) = some (some (.agg #[.string ByteArray.empty, .string ByteArray.empty, .int .i64 0, .int .i64 0, .int .i64 0]), 5, 56) := by kernel_rfl
def zN : Nm := ⟨ByteArray.empty, ByteArray.empty, 0, 0, 0⟩
theorem nmV_set5 : ∀ (ys : List Nm) (k : Nat) (q : Nm), k < ys.length → (((((nmV ys).set (k * 5) (.string q.t)).set (k * 5 + 1) (.string q.l)).set (k * 5 + 2) (.int .i64 q.s)).set (k * 5 + 3) (.int .i64 q.f)).set (k * 5 + 4) (.int .i64 q.u) = nmV (ys.set k q)
  | [], k, q, h => by simp at h
  | y :: ys, 0, q, h => by show _ = nmV (q :: ys); rw [nmV_cons, nmV_cons]; rfl
  | y :: ys, k + 1, q, h => by
    have ih := nmV_set5 ys k q (by simpa using h)
    rw [List.set_cons_succ, nmV_cons, nmV_cons, ← ih, show (k + 1) * 5 = k * 5 + 1 + 1 + 1 + 1 + 1 by omega]
    rfl
def copyN (xs : List Nm) (n k : Nat) : List Nm := xs.take k ++ List.replicate (n - k) zN
theorem copyN_zero (n : Nat) (xs : List Nm) : (madeCells #[Value.string ByteArray.empty, Value.string ByteArray.empty, Value.int .i64 0, Value.int .i64 0, Value.int .i64 0] (n * 5)).toList = nmV (copyN xs n 0) := by
  apply List.ext_getElem?
  intro j
  unfold copyN
  rw [List.take_zero, List.nil_append, Nat.sub_zero]
  by_cases h : j < n * 5
  · obtain ⟨q, r, rfl, hr⟩ : ∃ q r, j = q * 5 + r ∧ r < 5 := ⟨j / 5, j % 5, by omega, by omega⟩
    have hq : q < n := by omega
    have hz : (List.replicate n zN)[q]? = some zN := by simp [hq]
    have ha := nmV_at _ q _ hz
    have hmod : (q * 5 + r) % 5 = r := by omega
    match r, hr with
    | 0, _ => rw [show q * 5 + 0 = q * 5 from rfl, ha.1]; simp [madeCells, hq, zN]
    | 1, _ => rw [ha.2.1]; simp [madeCells, h, hmod, zN]
    | 2, _ => rw [ha.2.2.1]; simp [madeCells, h, hmod, zN]
    | 3, _ => rw [ha.2.2.2.1]; simp [madeCells, h, hmod, zN]
    | 4, _ => rw [ha.2.2.2.2]; simp [madeCells, h, hmod, zN]
  · rw [List.getElem?_eq_none (by simp [madeCells]; omega), List.getElem?_eq_none (by rw [nmV_len]; simp; omega)]
theorem copyN_len (xs : List Nm) (n k : Nat) (hn : n = xs.length) (hk : k ≤ n) : (copyN xs n k).length = n := by unfold copyN; rw [List.length_append, List.length_take, List.length_replicate]; omega
theorem copyN_step (xs : List Nm) (n k : Nat) (p : Nm) (hn : n = xs.length) (h : xs[k]? = some p) : (copyN xs n k).set k p = copyN xs n (k + 1) := by
  have hl := (List.getElem?_eq_some_iff.1 h).1
  unfold copyN
  rw [List.set_append_right _ _ (by rw [List.length_take]; omega), take_snoc9 h, List.append_assoc, List.length_take, show k - min k xs.length = 0 by omega]
  congr 1
  obtain ⟨d, hd⟩ : ∃ d, n - k = d + 1 := ⟨n - k - 1, by omega⟩
  rw [hd, show n - (k + 1) = d by omega, List.replicate_succ, List.set_cons_zero]
  rfl
theorem copyN_all (xs : List Nm) (n : Nat) (hn : n = xs.length) : copyN xs n n = xs := by
  unfold copyN; rw [List.take_of_length_le (by omega), Nat.sub_self]; simp

theorem frozen_at9 (w : World) (c : Array Value) (t : TypeId) (b k : Nat) (h : b = w.heap.size) : (w.alloc (.cells c t)).frozen? ⟨b, k, none⟩ = false := by
  subst h; exact World.frozen?_alloc_new _ _ _ _
def SmallN (n : Nat) (xs : List Nm) (r : Int) : Prop := r ≤ 1048576 ∧ (r < 0 ∨ (n ≤ 1048576 ∧ ∀ e ∈ xs, e.t.size ≤ 1048576 ∧ e.l.size ≤ 1048576))
def SzN (n : Nat) (xs : List Nm) (w : World) (e : Ending) (w' : World) : Prop := ∃ r : Int, SmallN n xs r ∧ e = .returned (.int .i64 r) ∧ Below w.heap.size w w'
def CopyN (n : Nat) (xs : List Nm) (w : World) (e : Ending) (w' : World) : Prop := ∃ A, e = .returned (.slice A n n) ∧ w'.ownsRow w.heap.size 27 5 (.slice A n n) n (nmV xs) ∧ Below w.heap.size w w'
theorem below_set5 {B : Nat} {w w' : World} (h : Below B w w') {g : Nat} (hg : B ≤ g) (i j k l m : Nat) (x y z u v : Value) : Below B w (((((w'.setCell ⟨g, i, none⟩ x).setCell ⟨g, j, none⟩ y).setCell ⟨g, k, none⟩ z).setCell ⟨g, l, none⟩ u).setCell ⟨g, m, none⟩ v) := ((((h.setCell hg x).setCell hg y).setCell hg z).setCell hg u).setCell hg v
theorem cEqSp9 (x y : Int) (w : World) :
    Calls Tryz.prog 29 #[.agg #[.int .i64 x, .int .i64 y], .agg #[.int .i64 x, .int .i64 y]] w fun e w' => e = .returned (.bool true) ∧ Below w.heap.size w w' := by
  have hx : (x != x) = false := by simp
  have hy : (y != y) = false := by simp
  go_enter Tryz.func29, Tryz.ntmps29
  go_wp2
  go_ret
  exact ⟨rfl, ((Below.refl _ _).alloc (Nat.le_refl _) _).alloc (by simp) _⟩
theorem cEqNm (x : Nm) (w : World) :
    Calls Tryz.prog 13 #[nmA x, nmA x] w fun e w' => e = .returned (.bool true) ∧ Below w.heap.size w w' := by
  have hz : (x.s != x.s) = false := by simp
  have h1 : (x.t.toList != x.t.toList) = false := by simp
  have h2 : (x.l.toList != x.l.toList) = false := by simp
  have CS := Lib.hid (cEqSp9 x.f x.u)
  go_enter Tryz.func13, Tryz.ntmps13
  go_wp2_with fail
  refine (CS.out _).mono ?_
  rintro e w1 ⟨rfl, hb1⟩
  have hbt := (((Below.refl w.heap.size w).alloc (Nat.le_refl _) (.cells #[.string x.t, .string x.l, .int .i64 x.s, .int .i64 x.f, .int .i64 x.u] 27)).alloc (by simp) (.cells #[.string x.t, .string x.l, .int .i64 x.s, .int .i64 x.f, .int .i64 x.u] 27)).trans (hb1.mono (by simp; omega))
  go_wp2_with fail
  go_ret
  exact ⟨rfl, hbt⟩

theorem Sp.nm {w : World} {A : Option Addr} {n : Nat} {xs : List Nm} (h : NmAt w w.heap.size A n xs) : Sp 0 w.heap.size (fun W => NmAt W W.heap.size A n xs) w :=
  ⟨Nat.le_refl _, fun W hW => (h.below hW.below (Nat.le_refl _)).more hW.size⟩
end Go.Proofs.YthlajgkelggnkaaGreatDoor
