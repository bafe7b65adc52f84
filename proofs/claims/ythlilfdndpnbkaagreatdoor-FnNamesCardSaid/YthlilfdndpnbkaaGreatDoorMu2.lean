/-
  What a walk is told of a slice that came in: it is nil, or it leads to a row of cells.
-/
import Derived.Test.YthlilfdndpnbkaaGreatDoorMu1
import Derived.Test.YthlilfdndpnbkaaGreatDoorChecked
import Derived.LoopTactic
import Derived.Outline
import Derived.BigQuiet
import Derived.Deep.QuietTactic
import Derived.Maps.AppendAt
import Derived.Handy
namespace Go.Proofs.YthlilfdndpnbkaaGreatDoor
section
set_option linter.unusedVariables false

/-- A slice of integers: the numbers zs up to the capacity. -/
def IsInts (k : IntKind) (w : World) (a : Option Addr) (len cap : Nat) (zs : List Int) : Prop :=
  (a = none ∧ len = 0 ∧ cap = 0 ∧ zs = []) ∨
  ∃ x, a = some x ∧ len ≤ cap ∧ cap ≤ maxLen ∧ zs.length = cap ∧ (∀ i, i < zs.length → w.cell? (x.add i) = some (.int k (zs.getD i 0))) ∧ ∀ n ∈ zs, (Lit.int k n).wf = true
/-- A slice of texts: the texts zs up to the capacity. -/
def IsStrs (w : World) (a : Option Addr) (len cap : Nat) (zs : List ByteArray) : Prop :=
  (a = none ∧ len = 0 ∧ cap = 0 ∧ zs = []) ∨
  ∃ x, a = some x ∧ len ≤ cap ∧ cap ≤ maxLen ∧ zs.length = cap ∧ (∀ i, i < zs.length → w.cell? (x.add i) = some (.string (zs.getD i ByteArray.empty))) ∧ ∀ s ∈ zs, s.size ≤ maxLen
theorem add_plain' (b o i : Nat) : (⟨b, o, none⟩ : Addr).add i = ⟨b, o + i, none⟩ := by
  unfold Addr.add
  split
  · rename_i h; simp_all
  · rfl
/-- A slice of texts that is not empty has an address, and its cells hold its texts. -/
theorem IsStrs.row {w : World} {a : Option Addr} {len cap : Nat} {zs : List ByteArray} (h : IsStrs w a len cap zs) (hp : 0 < len) :
    ∃ b o, a = some ⟨b, o, none⟩ ∧ b < w.heap.size ∧ (zs.take len).length = len ∧ len ≤ maxLen ∧ (∀ (j : Nat) x, (zs.take len)[j]? = some x → w.cell? ⟨b, o + j, none⟩ = some (.string x)) ∧ ∀ s ∈ zs.take len, s.size ≤ maxLen := by
  rcases h with ⟨_, h, _⟩ | ⟨x, rfl, hl, hm, hz, hc, hs⟩
  · omega
  · obtain ⟨b, o, spot⟩ := x
    have hspot : spot = none := by simpa [Addr.add] using World.cell?_spot (hc 0 (by omega))
    subst hspot
    have h0 := hc 0 (by omega)
    rw [add_plain'] at h0
    refine ⟨b, o, rfl, World.block_lt_of_cell? w _ h0, by simp; omega, by omega, fun j y hj => ?_, fun s hs' => hs s (List.mem_of_mem_take hs')⟩
    have hjl := (List.getElem?_eq_some_iff.1 hj).1
    rw [List.length_take] at hjl
    have h1 := hc j (by omega)
    rw [add_plain'] at h1
    rw [h1]
    rw [List.getElem?_take, if_pos (by omega)] at hj
    simp [List.getD, hj]
end
section
set_option linter.unusedVariables false
open Go.RowKit

theorem cIn_any (n lo hi : Int) (w : World) :
    Calls Tryz.prog 92 #[.int .i64 n, .int .i64 lo, .int .i64 hi] w fun e w' => e = .returned (.bool (decide (lo ≤ n) && decide (n ≤ hi))) ∧ w = w' := by
  by_cases h1 : lo ≤ n <;> by_cases h2 : n ≤ hi
  all_goals
    go_enter Tryz.func92, Tryz.ntmps92
    go_wp2
    go_ret
    exact ⟨by simp [h1, h2], rfl⟩

set_option maxHeartbeats 400000 in
theorem cLetters (s : ByteArray) (w : World) (hs : s.size ≤ maxLen) :
    Calls Tryz.prog 115 #[.string s] w fun e w' => e = .returned (.bool (lowAll s.data.toList)) ∧ w = w' := by
  unfold maxLen at hs
  go_enter Tryz.func115, Tryz.ntmps115
  go_wp2
  go_loop [6] (fun i => ∃ k : Nat, k ≤ s.size ∧ i = .int .i64 k ∧ Hid (lowAll (s.data.toList.take k) = true)) (fun i => s.size - (intOf i).toNat)
  case atStart => exact ⟨0, Nat.zero_le _, rfl, Lib.hid (lowAll_zero s)⟩
  case round =>
    obtain ⟨k, hk, rfl, HA⟩ := hrel
    by_cases hlt : k < s.size
    · go_wp2
      all_goals first
        | (have hno : (s[k].toNat : Int) < 97 ∨ (122 : Int) < (s[k].toNat : Int) := by first | assumption | omega
           go_ret
           exact ⟨ret_bool (lowAll_stop s k hlt (lowB_no _ hno)).symm, rfl⟩)
        | (go_round
           case rel => exact ⟨k + 1, by omega, by go_num, Lib.hid (lowAll_step s k hlt HA.out (lowB_yes _ (by omega) (by omega)))⟩
           case measure => simp [intOf]; omega)
    · go_wp2
      go_ret
      exact ⟨ret_bool ((lowAll_end s k (by omega)).symm.trans HA.out).symm, rfl⟩

theorem word_mid (s : ByteArray) (h0 : ¬ s.size < 1) (h1 : ¬ 16 < s.size) : wordB s = lowAll s.data.toList := by
  cases h : lowAll s.data.toList
  · unfold wordB; simp [h]
  · exact word_yes s (by omega) (by omega) h
set_option maxHeartbeats 400000 in
theorem cIsWord_impl (s : ByteArray) (w : World) (hs : s.size ≤ maxLen) :
    Calls Tryz.prog 170 #[.string s] w fun e w' => e = .returned (.bool (wordB s)) ∧ w = w' := by
  have CL := Lib.hid (cLetters s w hs)
  unfold maxLen at hs
  by_cases h0 : s.size < 1
  · have hx := word_none s h0
    have HX := Lib.hid hx; clear hx
    go_enter Tryz.func170, Tryz.ntmps170
    go_wp2
    go_ret
    exact ⟨ret_bool HX.out.symm, rfl⟩
  by_cases h1 : 16 < s.size
  · have hx := word_long s h1
    have HX := Lib.hid hx; clear hx
    go_enter Tryz.func170, Tryz.ntmps170
    go_wp2
    go_ret
    exact ⟨ret_bool HX.out.symm, rfl⟩
  have HX := Lib.hid (word_mid s h0 h1)
  go_enter Tryz.func170, Tryz.ntmps170
  go_wp2_with (go_at_call 115; refine CL.out.mono ?_; rintro e w' ⟨rfl, rfl⟩)
  go_ret
  exact ⟨ret_bool HX.out.symm, rfl⟩

set_option maxHeartbeats 400000 in
theorem cIsWord_spec (s : ByteArray) (w : World) (hs : s.size ≤ maxLen) :
    Calls Tryz.prog 140 #[.string s] w fun e w' => e = .returned (.bool (wordB s)) ∧ w = w' := by
  unfold maxLen at hs
  go_enter Tryz.func140, Tryz.ntmps140
  go_wp2
  go_loop [3] (fun i => ∃ k : Nat, k ≤ s.size ∧ i = .int .i64 k ∧ Hid (lowAll (s.data.toList.take k) = true)) (fun i => s.size - (intOf i).toNat)
  case atStart => exact ⟨0, Nat.zero_le _, rfl, Lib.hid (lowAll_zero s)⟩
  case round =>
    obtain ⟨k, hk, rfl, HA⟩ := hrel
    by_cases hlt : k < s.size
    · go_wp2
      all_goals first
        | (have hno : (s[k].toNat : Int) < 97 ∨ (122 : Int) < (s[k].toNat : Int) := by first | assumption | omega
           go_ret
           exact ⟨ret_bool (word_stop s k hlt (lowB_no _ hno)).symm, rfl⟩)
        | (go_round
           case rel => exact ⟨k + 1, by omega, by go_num, Lib.hid (lowAll_step s k hlt HA.out (lowB_yes _ (by omega) (by omega)))⟩
           case measure => simp [intOf]; omega)
    · go_wp2_with (go_at_call 92; refine (cIn_any _ _ _ _).mono ?_; rintro e w' ⟨rfl, rfl⟩)
      go_ret
      exact ⟨ret_bool (word_sum s ((lowAll_end s k (by omega)).symm.trans HA.out)).symm, rfl⟩
end
section
set_option linter.unusedVariables false
open Go.RowKit

def CodeAt (w : World) (B : Nat) (A : Option Addr) (len : Nat) : Prop :=
  0 < len → ∃ b o, A = some ⟨b, o, none⟩ ∧ b < B ∧ b < w.heap.size ∧ ∀ j, j < len → ∃ z : Int, 0 ≤ z ∧ z ≤ 255 ∧ w.cell? ⟨b, o + j, none⟩ = some (.int .u8 z)
theorem CodeAt.kept {w w' : World} {B : Nat} {A : Option Addr} {len : Nat} (h : CodeAt w B A len) (hg : w.grownBy w' (some B)) : CodeAt w' B A len := fun hp => by
  obtain ⟨b, o, hA, hne, hlt, hc⟩ := h hp
  refine ⟨b, o, hA, hne, Nat.lt_of_lt_of_le hlt hg.size, fun j hj => ?_⟩
  obtain ⟨z, h0, h1, h2⟩ := hc j hj
  exact ⟨z, h0, h1, hg.cell h2 (by simp; omega)⟩
def srcCells (A : Option Addr) (len cap : Nat) (at_ seed : Int) : Array Value := #[.slice A len cap, .int .i64 at_, .int .i64 seed]
def Src (w : World) (B len : Nat) : Prop :=
  ∃ A cap at_ seed, TabAt w B 122 (srcCells A len cap at_ seed) ∧ 0 ≤ at_ ∧ at_ ≤ len ∧ 0 ≤ seed ∧ seed ≤ 2147483646 ∧ CodeAt w B A len
def NextPost (n : Int) (w : World) (B len : Nat) (e : Ending) (w' : World) : Prop := ∃ r : Int, 0 ≤ r ∧ (r < n ∨ r = 0) ∧ e = .returned (.int .i64 r) ∧ Src w' B len ∧ w.grownBy w' (some B)

theorem src_set2 (A : Option Addr) (len cap : Nat) (a s s1 : Int) : (srcCells A len cap a s).setIfInBounds 2 (.int .i64 s1) = srcCells A len cap a s1 := rfl
theorem src_set1 (A : Option Addr) (len cap : Nat) (a a1 s : Int) : (srcCells A len cap a s).setIfInBounds 1 (.int .i64 a1) = srcCells A len cap a1 s := rfl
theorem mod_bd (x n : Int) (hn : 1 < n) : 0 ≤ x % n ∧ (x % n < n ∨ x % n = 0) := ⟨Int.emod_nonneg _ (by omega), .inl (Int.emod_lt_of_pos _ (by omega))⟩
theorem grown_set (w : World) (B i : Nat) (u : Value) : w.grownBy (w.setCell ⟨B, i, none⟩ u) (some B) :=
  ⟨rfl, rfl, rfl, by simp, fun k hk hne => Below.heap_setCell w _ u k (fun e => hne (by rw [e]))⟩
theorem grown_dr {w w' : World} {row : Option Nat} (h : w.grownBy w' row) (n : Nat) : w.grownBy (w'.drewN n) row := ⟨h.os, h.tape, h.output, h.size, h.block⟩

set_option maxHeartbeats 2000000 in
set_option maxRecDepth 100000 in
theorem cNext (B len : Nat) (n : Int) (w : World) (hlen : len ≤ 1048576) (hn1 : -1000000000 ≤ n) (hn : n ≤ 10000000000) (h : Src w B len) :
    Calls Tryz.prog 48 #[.pointer (some ⟨B, 0, none⟩), .int .i64 n] w (NextPost n w B len) := by
  by_cases h1 : n ≤ 1
  · have H := Lib.hid h
    clear h
    go_enter Tryz.func48, Tryz.ntmps48
    go_wp2
    go_ret
    exact ⟨0, by omega, .inr rfl, rfl, H.out, World.grownBy.refl _ _⟩
  obtain ⟨A, cap, at_, seed, hT, ha0, ha1, hs0, hs1, hC⟩ := h
  have c0 : w.cell? ⟨B, 0, none⟩ = some (.slice A len cap) := (hT.cell 0).trans rfl
  have c1 : w.cell? ⟨B, 1, none⟩ = some (.int .i64 at_) := (hT.cell 1).trans rfl
  have c2 : w.cell? ⟨B, 2, none⟩ = some (.int .i64 seed) := (hT.cell 2).trans rfl
  have f1 := hT.frozen 1
  have f2 := hT.frozen 2
  have HT := Lib.hid hT
  have HC := Lib.hid hC
  clear hT hC
  by_cases hat : at_ < len
  · obtain ⟨b, o, rfl, hne, hbl, hcc⟩ := HC.out (by omega)
    obtain ⟨k, rfl⟩ : ∃ k : Nat, at_ = k := ⟨at_.toNat, by omega⟩
    obtain ⟨z, hz0, hz1, hcz⟩ := hcc k (by omega)
    clear hcc
    go_enter Tryz.func48, Tryz.ntmps48
    go_wp2
    have hb1 : 0 ≤ (seed * 48271 + 29) % 2147483647 := by omega
    have hb2 : (seed * 48271 + 29) % 2147483647 ≤ 2147483646 := by omega
    have T1 := HT.out.set 2 (.int .i64 ((seed * 48271 + 29) % 2147483647))
    rw [src_set2] at T1
    have G1 := grown_set w B 2 (.int .i64 ((seed * 48271 + 29) % 2147483647))
    generalize (seed * 48271 + 29) % 2147483647 = s1 at *
    generalize w.setCell ⟨B, 2, none⟩ (.int .i64 s1) = W1 at *
    have d0 : W1.cell? ⟨B, 0, none⟩ = some (.slice (some ⟨b, o, none⟩) len cap) := (T1.cell 0).trans rfl
    have d1 : W1.cell? ⟨B, 1, none⟩ = some (.int .i64 k) := (T1.cell 1).trans rfl
    have g1 := T1.frozen 1
    have C1 := Lib.hid (HC.out.kept G1)
    have TT := Lib.hid T1
    have GG := Lib.hid G1
    clear T1 G1 c0 c1 c2 f1 f2
    have dz : W1.cell? ⟨b, o + k, none⟩ = some (.int .u8 z) := GG.out.cell hcz (by simp; omega)
    clear hcz
    have e1 : (0 : Int) ≤ (k : Int) := Int.natCast_nonneg _
    have e2 : (k : Int) < (len : Int) := by omega
    have hmod := fun x => mod_bd x n (by omega)
    have HM := Lib.hid hmod
    clear hmod
    go_quiet (fail)
    go_wp2
    go_quiet (fail)
    go_wp2
    all_goals first
      | (go_ret
         exact ⟨_, (HM.out _).1, (HM.out _).2, rfl, ⟨(some ⟨b, o, none⟩), cap, (k : Int) + 1, s1, by rw [← src_set1 _ _ _ (k : Int)]; exact TabAt.set (w := W1) TT.out 1 _, by omega, by omega, hb1, hb2, C1.out.kept (w' := W1.setCell ⟨B, 1, none⟩ (.int .i64 ((k : Int) + 1))) (grown_set W1 B 1 _)⟩, GG.out.trans ⟨rfl, rfl, rfl, by simp, fun j hj hne => Below.heap_setCell W1 ⟨B, 1, none⟩ (.int .i64 ((k : Int) + 1)) j (fun e => hne (by rw [e]))⟩⟩)
      | (go_quiet (fail)
         go_wp2
         go_ret
         exact ⟨_, (HM.out _).1, (HM.out _).2, rfl, ⟨(some ⟨b, o, none⟩), cap, (k : Int) + 1, s1, by rw [← src_set1 _ _ _ (k : Int)]; exact TabAt.set (w := W1) TT.out 1 _, by omega, by omega, hb1, hb2, C1.out.kept (w' := W1.setCell ⟨B, 1, none⟩ (.int .i64 ((k : Int) + 1))) (grown_set W1 B 1 _)⟩, GG.out.trans ⟨rfl, rfl, rfl, by simp, fun j hj hne => Below.heap_setCell W1 ⟨B, 1, none⟩ (.int .i64 ((k : Int) + 1)) j (fun e => hne (by rw [e]))⟩⟩)
  · go_enter Tryz.func48, Tryz.ntmps48
    go_wp2
    have hb1 : 0 ≤ (seed * 48271 + 29) % 2147483647 := by omega
    have hb2 : (seed * 48271 + 29) % 2147483647 ≤ 2147483646 := by omega
    have T1 := HT.out.set 2 (.int .i64 ((seed * 48271 + 29) % 2147483647))
    rw [src_set2] at T1
    have G1 := grown_set w B 2 (.int .i64 ((seed * 48271 + 29) % 2147483647))
    generalize (seed * 48271 + 29) % 2147483647 = s1 at *
    generalize w.setCell ⟨B, 2, none⟩ (.int .i64 s1) = W1 at *
    have d0 : W1.cell? ⟨B, 0, none⟩ = some (.slice A len cap) := (T1.cell 0).trans rfl
    have d1 : W1.cell? ⟨B, 1, none⟩ = some (.int .i64 at_) := (T1.cell 1).trans rfl
    have g1 := T1.frozen 1
    have C1 := Lib.hid (HC.out.kept G1)
    have TT := Lib.hid T1
    have GG := Lib.hid G1
    clear T1 G1 c0 c1 c2 f1 f2
    have hd : decide (at_ < (len : Int)) = false := decide_eq_false (by omega)
    go_quiet (fail)
    go_wp2
    go_ret
    exact ⟨_, (mod_bd _ n (by omega)).1, (mod_bd _ n (by omega)).2, rfl, ⟨A, cap, at_, s1, TT.out, ha0, ha1, hb1, hb2, C1.out⟩, grown_dr GG.out _⟩
end
end Go.Proofs.YthlilfdndpnbkaaGreatDoor
