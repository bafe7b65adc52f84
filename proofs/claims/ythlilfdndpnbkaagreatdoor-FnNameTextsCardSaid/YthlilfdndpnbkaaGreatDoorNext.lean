/-
  The contract of spec.l01Next: the next number of a source. 'Src w B len': block B of w is a source over a code of len bytes.
-/
import Derived.Test.YthlilfdndpnbkaaGreatDoorDpPlain
import Derived.Test.YthlilfdndpnbkaaGreatDoorMg1
import Derived.BigQuiet
import Derived.Deep.QuietTactic
import Derived.Maps.AppendAt
import Derived.Handy
namespace Go.Proofs.YthlilfdndpnbkaaGreatDoor
set_option linter.unusedVariables false
open Go.RowKit

def CodeAt (w : World) (B : Nat) (A : Option Addr) (len : Nat) : Prop :=
  0 < len → ∃ b o, A = some ⟨b, o, none⟩ ∧ b < B ∧ b < w.heap.size ∧ ∀ j, j < len → ∃ z : Int, 0 ≤ z ∧ z ≤ 255 ∧ w.cell? ⟨b, o + j, none⟩ = some (.int .u8 z)
theorem CodeAt.kept {w w' : World} {B : Nat} {A : Option Addr} {len : Nat} (h : CodeAt w B A len) (hg : w.grownBy w' (some B)) : CodeAt w' B A len := fun hp => by
  obtain ⟨b, o, hA, hne, hlt, hc⟩ := h hp
  refine ⟨b, o, hA, hne, Nat.lt_of_lt_of_le hlt hg.size, fun j hj => ?_⟩
  obtain ⟨z, h0, h1, h2⟩ := hc j hj
  exact ⟨z, h0, h1, hg.cell h2 (by simp; omega)⟩
def srcCells (A : Option Addr) (len cap : Nat) (at_ seed : Int) : Array Value := #[.slice A len cap, .int .i64 at_, .int .i64 seed]
def Src (w : World) (B len : Nat) : Prop :=
  ∃ A cap at_ seed, TabAt w B 122 (srcCells A len cap at_ seed) ∧ 0 ≤ at_ ∧ at_ ≤ len ∧ 0 ≤ seed ∧ seed ≤ 2147483646 ∧ CodeAt w B A len
def NextPost (n : Int) (w : World) (B len : Nat) (e : Ending) (w' : World) : Prop := ∃ r : Int, 0 ≤ r ∧ (r < n ∨ r = 0) ∧ e = .returned (.int .i64 r) ∧ Src w' B len ∧ w.grownBy w' (some B)

theorem src_set2 (A : Option Addr) (len cap : Nat) (a s s1 : Int) : (srcCells A len cap a s).setIfInBounds 2 (.int .i64 s1) = srcCells A len cap a s1 := rfl
theorem src_set1 (A : Option Addr) (len cap : Nat) (a a1 s : Int) : (srcCells A len cap a s).setIfInBounds 1 (.int .i64 a1) = srcCells A len cap a1 s := rfl
theorem mod_bd (x n : Int) (hn : 1 < n) : 0 ≤ x % n ∧ (x % n < n ∨ x % n = 0) := ⟨Int.emod_nonneg _ (by omega), .inl (Int.emod_lt_of_pos _ (by omega))⟩
theorem grown_set (w : World) (B i : Nat) (u : Value) : w.grownBy (w.setCell ⟨B, i, none⟩ u) (some B) :=
  ⟨rfl, rfl, rfl, by simp, fun k hk hne => Below.heap_setCell w _ u k (fun e => hne (by rw [e]))⟩
theorem grown_dr {w w' : World} {row : Option Nat} (h : w.grownBy w' row) (n : Nat) : w.grownBy (w'.drewN n) row := ⟨h.os, h.tape, h.output, h.size, h.block⟩

set_option maxHeartbeats 2000000 in
set_option maxRecDepth 100000 in
theorem cNext (B len : Nat) (n : Int) (w : World) (hlen : len ≤ 1048576) (hn1 : -1000000000 ≤ n) (hn : n ≤ 10000000000) (h : Src w B len) :
    Calls Tryz.prog 48 #[.pointer (some ⟨B, 0, none⟩), .int .i64 n] w (NextPost n w B len) := by
  by_cases h1 : n ≤ 1
  · have H := Lib.hid h
    clear h
    go_enter Tryz.func48, Tryz.ntmps48
    go_wp2
    go_ret
    exact ⟨0, by omega, .inr rfl, rfl, H.out, World.grownBy.refl _ _⟩
  obtain ⟨A, cap, at_, seed, hT, ha0, ha1, hs0, hs1, hC⟩ := h
  have c0 : w.cell? ⟨B, 0, none⟩ = some (.slice A len cap) := (hT.cell 0).trans rfl
  have c1 : w.cell? ⟨B, 1, none⟩ = some (.int .i64 at_) := (hT.cell 1).trans rfl
  have c2 : w.cell? ⟨B, 2, none⟩ = some (.int .i64 seed) := (hT.cell 2).trans rfl
  have f1 := hT.frozen 1
  have f2 := hT.frozen 2
  have HT := Lib.hid hT
  have HC := Lib.hid hC
  clear hT hC
  by_cases hat : at_ < len
  · obtain ⟨b, o, rfl, hne, hbl, hcc⟩ := HC.out (by omega)
    obtain ⟨k, rfl⟩ : ∃ k : Nat, at_ = k := ⟨at_.toNat, by omega⟩
    obtain ⟨z, hz0, hz1, hcz⟩ := hcc k (by omega)
    clear hcc
    go_enter Tryz.func48, Tryz.ntmps48
    go_wp2
    have hb1 : 0 ≤ (seed * 48271 + 29) % 2147483647 := by omega
    have hb2 : (seed * 48271 + 29) % 2147483647 ≤ 2147483646 := by omega
    have T1 := HT.out.set 2 (.int .i64 ((seed * 48271 + 29) % 2147483647))
    rw [src_set2] at T1
    have G1 := grown_set w B 2 (.int .i64 ((seed * 48271 + 29) % 2147483647))
    generalize (seed * 48271 + 29) % 2147483647 = s1 at *
    generalize w.setCell ⟨B, 2, none⟩ (.int .i64 s1) = W1 at *
    have d0 : W1.cell? ⟨B, 0, none⟩ = some (.slice (some ⟨b, o, none⟩) len cap) := (T1.cell 0).trans rfl
    have d1 : W1.cell? ⟨B, 1, none⟩ = some (.int .i64 k) := (T1.cell 1).trans rfl
    have g1 := T1.frozen 1
    have C1 := Lib.hid (HC.out.kept G1)
    have TT := Lib.hid T1
    have GG := Lib.hid G1
    clear T1 G1 c0 c1 c2 f1 f2
    have dz : W1.cell? ⟨b, o + k, none⟩ = some (.int .u8 z) := GG.out.cell hcz (by simp; omega)
    clear hcz
    have e1 : (0 : Int) ≤ (k : Int) := Int.natCast_nonneg _
    have e2 : (k : Int) < (len : Int) := by omega
    have hmod := fun x => mod_bd x n (by omega)
    have HM := Lib.hid hmod
    clear hmod
    go_quiet (fail)
    go_wp2
    go_quiet (fail)
    go_wp2
    all_goals first
      | (go_ret
         exact ⟨_, (HM.out _).1, (HM.out _).2, rfl, ⟨(some ⟨b, o, none⟩), cap, (k : Int) + 1, s1, by rw [← src_set1 _ _ _ (k : Int)]; exact TabAt.set (w := W1) TT.out 1 _, by omega, by omega, hb1, hb2, C1.out.kept (w' := W1.setCell ⟨B, 1, none⟩ (.int .i64 ((k : Int) + 1))) (grown_set W1 B 1 _)⟩, GG.out.trans ⟨rfl, rfl, rfl, by simp, fun j hj hne => Below.heap_setCell W1 ⟨B, 1, none⟩ (.int .i64 ((k : Int) + 1)) j (fun e => hne (by rw [e]))⟩⟩)
      | (go_quiet (fail)
         go_wp2
         go_ret
         exact ⟨_, (HM.out _).1, (HM.out _).2, rfl, ⟨(some ⟨b, o, none⟩), cap, (k : Int) + 1, s1, by rw [← src_set1 _ _ _ (k : Int)]; exact TabAt.set (w := W1) TT.out 1 _, by omega, by omega, hb1, hb2, C1.out.kept (w' := W1.setCell ⟨B, 1, none⟩ (.int .i64 ((k : Int) + 1))) (grown_set W1 B 1 _)⟩, GG.out.trans ⟨rfl, rfl, rfl, by simp, fun j hj hne => Below.heap_setCell W1 ⟨B, 1, none⟩ (.int .i64 ((k : Int) + 1)) j (fun e => hne (by rw [e]))⟩⟩)
  · go_enter Tryz.func48, Tryz.ntmps48
    go_wp2
    have hb1 : 0 ≤ (seed * 48271 + 29) % 2147483647 := by omega
    have hb2 : (seed * 48271 + 29) % 2147483647 ≤ 2147483646 := by omega
    have T1 := HT.out.set 2 (.int .i64 ((seed * 48271 + 29) % 2147483647))
    rw [src_set2] at T1
    have G1 := grown_set w B 2 (.int .i64 ((seed * 48271 + 29) % 2147483647))
    generalize (seed * 48271 + 29) % 2147483647 = s1 at *
    generalize w.setCell ⟨B, 2, none⟩ (.int .i64 s1) = W1 at *
    have d0 : W1.cell? ⟨B, 0, none⟩ = some (.slice A len cap) := (T1.cell 0).trans rfl
    have d1 : W1.cell? ⟨B, 1, none⟩ = some (.int .i64 at_) := (T1.cell 1).trans rfl
    have g1 := T1.frozen 1
    have C1 := Lib.hid (HC.out.kept G1)
    have TT := Lib.hid T1
    have GG := Lib.hid G1
    clear T1 G1 c0 c1 c2 f1 f2
    have hd : decide (at_ < (len : Int)) = false := decide_eq_false (by omega)
    go_quiet (fail)
    go_wp2
    go_ret
    exact ⟨_, (mod_bd _ n (by omega)).1, (mod_bd _ n (by omega)).2, rfl, ⟨A, cap, at_, s1, TT.out, ha0, ha1, hb1, hb2, C1.out⟩, grown_dr GG.out _⟩
end Go.Proofs.YthlilfdndpnbkaaGreatDoor
