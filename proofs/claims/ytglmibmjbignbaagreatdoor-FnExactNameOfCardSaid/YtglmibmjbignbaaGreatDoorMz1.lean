/-
  Plain facts on words: no program is named here. 'wordB s': s has 1 to 16 bytes, each from 'a' to 'z'.
-/
import Derived.WalkKit
import Derived.Lib.Hide
import Derived.Below
import Derived.OwnWalk
import Derived.Laws.OwnMore
import Derived.Deep.QuietTactic
import Derived.Test.YtglmibmjbignbaaGreatDoorChecked
import Derived.LoopTactic
import Derived.Outline
import Derived.Laws.NewBlocks
import Derived.BigQuiet
namespace Go.Proofs.YtglmibmjbignbaaGreatDoor
section
set_option linter.unusedVariables false
open Go.RowKit

theorem ret_int {k : IntKind} {a b : Int} (h : a = b) : Ending.returned (.int k a) = .returned (.int k b) := by rw [h]
theorem ret_bool {a b : Bool} (h : a = b) : Ending.returned (.bool a) = .returned (.bool b) := by rw [h]

def lowB (c : UInt8) : Bool := decide (97 ≤ c.toNat) && decide (c.toNat ≤ 122)
def lowAll (l : List UInt8) : Bool := l.all lowB
def wordB (s : ByteArray) : Bool := decide (1 ≤ s.size) && decide (s.size ≤ 16) && lowAll s.data.toList

theorem lowB_yes (c : UInt8) (h1 : (97 : Int) ≤ (c.toNat : Int)) (h2 : (c.toNat : Int) ≤ 122) : lowB c = true := by
  unfold lowB; simp; omega
theorem lowB_no (c : UInt8) (h : (c.toNat : Int) < 97 ∨ (122 : Int) < (c.toNat : Int)) : lowB c = false := by
  unfold lowB; simp; omega

theorem take_snoc (s : ByteArray) (k : Nat) (h : k < s.size) : s.data.toList.take (k + 1) = s.data.toList.take k ++ [s[k]] := by
  rw [List.take_succ_eq_append_getElem (by simpa using h)]; rfl

theorem lowAll_zero (s : ByteArray) : lowAll (s.data.toList.take 0) = true := rfl
theorem lowAll_step (s : ByteArray) (k : Nat) (h : k < s.size) (ha : lowAll (s.data.toList.take k) = true) (hc : lowB s[k] = true) : lowAll (s.data.toList.take (k + 1)) = true := by
  rw [take_snoc s k h]; unfold lowAll at *; simp [List.all_append, ha, hc]
theorem lowAll_stop (s : ByteArray) (k : Nat) (h : k < s.size) (hc : lowB s[k] = false) : lowAll s.data.toList = false := by
  unfold lowAll
  rw [List.all_eq_false]
  exact ⟨s[k], List.getElem_mem (l := s.data.toList) (by simpa using h), by simp [hc]⟩
theorem lowAll_end (s : ByteArray) (k : Nat) (h : s.size ≤ k) : lowAll (s.data.toList.take k) = lowAll s.data.toList := by
  rw [List.take_of_length_le (by simp; omega)]

theorem word_stop (s : ByteArray) (k : Nat) (h : k < s.size) (hc : lowB s[k] = false) : wordB s = false := by
  unfold wordB; rw [lowAll_stop s k h hc]; simp
theorem word_long (s : ByteArray) (h : 16 < s.size) : wordB s = false := by
  unfold wordB; rw [show decide (s.size ≤ 16) = false from decide_eq_false (by omega)]; simp
theorem word_none (s : ByteArray) (h : s.size < 1) : wordB s = false := by
  unfold wordB; rw [show decide (1 ≤ s.size) = false from decide_eq_false (by omega)]; simp
theorem word_yes (s : ByteArray) (h1 : 1 ≤ s.size) (h2 : s.size ≤ 16) (h : lowAll s.data.toList = true) : wordB s = true := by
  unfold wordB; simp [h, h1, h2]
theorem word_sum (s : ByteArray) (h : lowAll s.data.toList = true) : wordB s = (decide ((1 : Int) ≤ (s.size : Int)) && decide ((s.size : Int) ≤ 16)) := by
  unfold wordB; rw [h, Bool.and_true]
  congr 1 <;> (rw [decide_eq_decide]; omega)
theorem word_size (s : ByteArray) (h : wordB s = true) : 1 ≤ s.size ∧ s.size ≤ 16 := by
  unfold wordB at h; simp at h; exact ⟨h.1.1, h.1.2⟩
end
section
set_option linter.unusedVariables false
open Go.RowKit

/-- From w to w' nothing in the blocks lo .. hi - 1 has changed. -/
structure Like (lo hi : Nat) (w w' : World) : Prop where
  os : w'.os = w.os
  tape : w'.tape = w.tape
  output : w'.output = w.output
  size : w.heap.size ≤ w'.heap.size
  block : ∀ k, lo ≤ k → k < hi → w'.heap[k]? = w.heap[k]?
theorem Like.refl (lo hi : Nat) (w : World) : Like lo hi w w := ⟨rfl, rfl, rfl, Nat.le_refl _, fun _ _ _ => rfl⟩
theorem Like.trans {lo hi : Nat} {a b c : World} (h : Like lo hi a b) (k : Like lo hi b c) : Like lo hi a c :=
  ⟨k.os.trans h.os, k.tape.trans h.tape, k.output.trans h.output, Nat.le_trans h.size k.size, fun i h1 h2 => (k.block i h1 h2).trans (h.block i h1 h2)⟩
theorem Like.of_below {lo hi B : Nat} {w w' : World} (h : Below B w w') (hB : hi ≤ B) : Like lo hi w w' := ⟨h.os, h.tape, h.output, h.size, fun k _ h2 => h.block k (Nat.lt_of_lt_of_le h2 hB)⟩
theorem Like.of_grown {lo hi : Nat} {w w' : World} {r : Option Nat} (h : w.grownBy w' r) (hw : hi ≤ w.heap.size) (hne : ∀ k, r = some k → k < lo ∨ hi ≤ k) : Like lo hi w w' :=
  ⟨h.os, h.tape, h.output, h.size, fun k h1 h2 => h.block k (Nat.lt_of_lt_of_le h2 hw) (fun e => by have := hne k e.symm; omega)⟩
theorem Like.below {hi : Nat} {w w' : World} (h : Like 0 hi w w') : Below hi w w' := ⟨h.os, h.tape, h.output, h.size, fun k h1 => h.block k (Nat.zero_le _) h1⟩
/-- P holds as long as the blocks lo .. hi - 1 lie as they lie. -/
def Sp (lo hi : Nat) (P : World → Prop) (w : World) : Prop := hi ≤ w.heap.size ∧ ∀ W, Like lo hi w W → P W
theorem Sp.here {lo hi : Nat} {P : World → Prop} {w : World} (h : Sp lo hi P w) : P w := h.2 w (Like.refl _ _ _)
theorem Sp.like {lo hi : Nat} {P : World → Prop} {w w' : World} (h : Sp lo hi P w) (hl : Like lo hi w w') : Sp lo hi P w' := ⟨Nat.le_trans h.1 hl.size, fun W hW => h.2 W (hl.trans hW)⟩
theorem Sp.next {lo hi : Nat} {P : World → Prop} {w w' : World} (h : Sp lo hi P w) (hb : Below w.heap.size w w') : Sp lo hi P w' := h.like (Like.of_below hb h.1)
theorem Sp.mark {lo hi : Nat} {P : World → Prop} {w w' : World} {r : Option Nat} (h : Sp lo hi P w) (hg : w.grownBy w' r) (hne : ∀ k, r = some k → k < lo ∨ hi ≤ k) : Sp lo hi P w' := h.like (Like.of_grown hg h.1 hne)
theorem Sp.from_ (w : World) : Sp 0 w.heap.size (fun W => Below w.heap.size w W) w := ⟨Nat.le_refl _, fun _ h => h.below⟩
theorem Sp.row {w : World} {lo s n : Nat} {t : TypeId} {v : Value} {xs : List Value} (h : w.ownsRow lo t s v n xs) : Sp lo w.heap.size (fun W => W.ownsRow lo t s v n xs) w :=
  ⟨Nat.le_refl _, fun W hW => ⟨h.1, by
    rcases h.2 with h2 | ⟨g, cap, cur, h1, h2, h3, h4⟩
    · exact .inl h2
    · exact .inr ⟨g, cap, cur, h1, h2, (hW.block g h2 (Array.getElem?_eq_some_iff.1 h3).1).trans h3, h4⟩⟩⟩
/-- A row that was written anew, in the range in which it lay. -/
theorem Sp.again {w : World} {lo hi s n : Nat} {t : TypeId} {v : Value} {xs : List Value} (h : w.ownsRow lo t s v n xs) (hlt : ∀ k, v.ownBlock = some k → k < hi) (hh : hi ≤ w.heap.size) : Sp lo hi (fun W => W.ownsRow lo t s v n xs) w :=
  ⟨hh, fun W hW => ⟨h.1, by
    rcases h.2 with h2 | ⟨g, cap, cur, h1, h2, h3, h4⟩
    · exact .inl h2
    · exact .inr ⟨g, cap, cur, h1, h2, (hW.block g h2 (hlt g (by rw [h1]; rfl))).trans h3, h4⟩⟩⟩
theorem own_range {w : World} {lo s n : Nat} {t : TypeId} {v : Value} {xs : List Value} (h : w.ownsRow lo t s v n xs) : ∀ k, v.ownBlock = some k → lo ≤ k ∧ k < w.heap.size := h.lt
theorem below_drN_r {B : Nat} {a w : World} (h : Below B a w) (n : Nat) : Below B a (w.drewN n) := ⟨h.os, h.tape, h.output, h.size, h.block⟩
end
section
set_option linter.unusedVariables false

/-- A slice of integers: the numbers zs up to the capacity. -/
def IsInts (k : IntKind) (w : World) (a : Option Addr) (len cap : Nat) (zs : List Int) : Prop :=
  (a = none ∧ len = 0 ∧ cap = 0 ∧ zs = []) ∨
  ∃ x, a = some x ∧ len ≤ cap ∧ cap ≤ maxLen ∧ zs.length = cap ∧ (∀ i, i < zs.length → w.cell? (x.add i) = some (.int k (zs.getD i 0))) ∧ ∀ n ∈ zs, (Lit.int k n).wf = true
/-- A slice of texts: the texts zs up to the capacity. -/
def IsStrs (w : World) (a : Option Addr) (len cap : Nat) (zs : List ByteArray) : Prop :=
  (a = none ∧ len = 0 ∧ cap = 0 ∧ zs = []) ∨
  ∃ x, a = some x ∧ len ≤ cap ∧ cap ≤ maxLen ∧ zs.length = cap ∧ (∀ i, i < zs.length → w.cell? (x.add i) = some (.string (zs.getD i ByteArray.empty))) ∧ ∀ s ∈ zs, s.size ≤ maxLen
theorem add_plain' (b o i : Nat) : (⟨b, o, none⟩ : Addr).add i = ⟨b, o + i, none⟩ := by
  unfold Addr.add
  split
  · rename_i h; simp_all
  · rfl
/-- A slice of texts that is not empty has an address, and its cells hold its texts. -/
theorem IsStrs.row {w : World} {a : Option Addr} {len cap : Nat} {zs : List ByteArray} (h : IsStrs w a len cap zs) (hp : 0 < len) :
    ∃ b o, a = some ⟨b, o, none⟩ ∧ b < w.heap.size ∧ (zs.take len).length = len ∧ len ≤ maxLen ∧ (∀ (j : Nat) x, (zs.take len)[j]? = some x → w.cell? ⟨b, o + j, none⟩ = some (.string x)) ∧ ∀ s ∈ zs.take len, s.size ≤ maxLen := by
  rcases h with ⟨_, h, _⟩ | ⟨x, rfl, hl, hm, hz, hc, hs⟩
  · omega
  · obtain ⟨b, o, spot⟩ := x
    have hspot : spot = none := by simpa [Addr.add] using World.cell?_spot (hc 0 (by omega))
    subst hspot
    have h0 := hc 0 (by omega)
    rw [add_plain'] at h0
    refine ⟨b, o, rfl, World.block_lt_of_cell? w _ h0, by simp; omega, by omega, fun j y hj => ?_, fun s hs' => hs s (List.mem_of_mem_take hs')⟩
    have hjl := (List.getElem?_eq_some_iff.1 hj).1
    rw [List.length_take] at hjl
    have h1 := hc j (by omega)
    rw [add_plain'] at h1
    rw [h1]
    rw [List.getElem?_take, if_pos (by omega)] at hj
    simp [List.getD, hj]
end
section
set_option linter.unusedVariables false
open Go.RowKit

theorem cIn_any (n lo hi : Int) (w : World) :
    Calls Tryz.prog 83 #[.int .i64 n, .int .i64 lo, .int .i64 hi] w fun e w' => e = .returned (.bool (decide (lo ≤ n) && decide (n ≤ hi))) ∧ w = w' := by
  by_cases h1 : lo ≤ n <;> by_cases h2 : n ≤ hi
  all_goals
    go_enter Tryz.func83, Tryz.ntmps83
    go_wp2
    go_ret
    exact ⟨by simp [h1, h2], rfl⟩

set_option maxHeartbeats 400000 in
theorem cLetters (s : ByteArray) (w : World) (hs : s.size ≤ maxLen) :
    Calls Tryz.prog 138 #[.string s] w fun e w' => e = .returned (.bool (lowAll s.data.toList)) ∧ w = w' := by
  unfold maxLen at hs
  go_enter Tryz.func138, Tryz.ntmps138
  go_wp2
  go_loop [6] (fun i => ∃ k : Nat, k ≤ s.size ∧ i = .int .i64 k ∧ Hid (lowAll (s.data.toList.take k) = true)) (fun i => s.size - (intOf i).toNat)
  case atStart => exact ⟨0, Nat.zero_le _, rfl, Lib.hid (lowAll_zero s)⟩
  case round =>
    obtain ⟨k, hk, rfl, HA⟩ := hrel
    by_cases hlt : k < s.size
    · go_wp2
      all_goals first
        | (have hno : (s[k].toNat : Int) < 97 ∨ (122 : Int) < (s[k].toNat : Int) := by first | assumption | omega
           go_ret
           exact ⟨ret_bool (lowAll_stop s k hlt (lowB_no _ hno)).symm, rfl⟩)
        | (go_round
           case rel => exact ⟨k + 1, by omega, by go_num, Lib.hid (lowAll_step s k hlt HA.out (lowB_yes _ (by omega) (by omega)))⟩
           case measure => simp [intOf]; omega)
    · go_wp2
      go_ret
      exact ⟨ret_bool ((lowAll_end s k (by omega)).symm.trans HA.out).symm, rfl⟩

theorem word_mid (s : ByteArray) (h0 : ¬ s.size < 1) (h1 : ¬ 16 < s.size) : wordB s = lowAll s.data.toList := by
  cases h : lowAll s.data.toList
  · unfold wordB; simp [h]
  · exact word_yes s (by omega) (by omega) h
set_option maxHeartbeats 400000 in
theorem cIsWord_impl (s : ByteArray) (w : World) (hs : s.size ≤ maxLen) :
    Calls Tryz.prog 89 #[.string s] w fun e w' => e = .returned (.bool (wordB s)) ∧ w = w' := by
  have CL := Lib.hid (cLetters s w hs)
  unfold maxLen at hs
  by_cases h0 : s.size < 1
  · have hx := word_none s h0
    have HX := Lib.hid hx; clear hx
    go_enter Tryz.func89, Tryz.ntmps89
    go_wp2
    go_ret
    exact ⟨ret_bool HX.out.symm, rfl⟩
  by_cases h1 : 16 < s.size
  · have hx := word_long s h1
    have HX := Lib.hid hx; clear hx
    go_enter Tryz.func89, Tryz.ntmps89
    go_wp2
    go_ret
    exact ⟨ret_bool HX.out.symm, rfl⟩
  have HX := Lib.hid (word_mid s h0 h1)
  go_enter Tryz.func89, Tryz.ntmps89
  go_wp2_with (go_at_call 138; refine CL.out.mono ?_; rintro e w' ⟨rfl, rfl⟩)
  go_ret
  exact ⟨ret_bool HX.out.symm, rfl⟩

set_option maxHeartbeats 400000 in
theorem cIsWord_spec (s : ByteArray) (w : World) (hs : s.size ≤ maxLen) :
    Calls Tryz.prog 82 #[.string s] w fun e w' => e = .returned (.bool (wordB s)) ∧ w = w' := by
  unfold maxLen at hs
  go_enter Tryz.func82, Tryz.ntmps82
  go_wp2
  go_loop [3] (fun i => ∃ k : Nat, k ≤ s.size ∧ i = .int .i64 k ∧ Hid (lowAll (s.data.toList.take k) = true)) (fun i => s.size - (intOf i).toNat)
  case atStart => exact ⟨0, Nat.zero_le _, rfl, Lib.hid (lowAll_zero s)⟩
  case round =>
    obtain ⟨k, hk, rfl, HA⟩ := hrel
    by_cases hlt : k < s.size
    · go_wp2
      all_goals first
        | (have hno : (s[k].toNat : Int) < 97 ∨ (122 : Int) < (s[k].toNat : Int) := by first | assumption | omega
           go_ret
           exact ⟨ret_bool (word_stop s k hlt (lowB_no _ hno)).symm, rfl⟩)
        | (go_round
           case rel => exact ⟨k + 1, by omega, by go_num, Lib.hid (lowAll_step s k hlt HA.out (lowB_yes _ (by omega) (by omega)))⟩
           case measure => simp [intOf]; omega)
    · go_wp2_with (go_at_call 83; refine (cIn_any _ _ _ _).mono ?_; rintro e w' ⟨rfl, rfl⟩)
      go_ret
      exact ⟨ret_bool (word_sum s ((lowAll_end s k (by omega)).symm.trans HA.out)).symm, rfl⟩
end
section
set_option linter.unusedVariables false
open Go.RowKit

def wordsB (xs : List ByteArray) : Bool := xs.all wordB
theorem wordsB_two (a b : ByteArray) : wordsB [a, b] = (wordB a && wordB b) := by simp [wordsB]
theorem wordsB_take_zero (xs : List ByteArray) : wordsB (xs.take 0) = true := rfl
theorem wordsB_step (xs : List ByteArray) (k : Nat) (x : ByteArray) (h : xs[k]? = some x) (ha : wordsB (xs.take k) = true) (hc : wordB x = true) : wordsB (xs.take (k + 1)) = true := by
  have hk : k < xs.length := (List.getElem?_eq_some_iff.1 h).1
  have hx : xs[k] = x := (List.getElem?_eq_some_iff.1 h).2
  rw [List.take_succ_eq_append_getElem hk]; unfold wordsB at *; simp [List.all_append, ha, hx, hc]
theorem wordsB_stop (xs : List ByteArray) (k : Nat) (x : ByteArray) (h : xs[k]? = some x) (hc : wordB x = false) : wordsB xs = false := by
  unfold wordsB; rw [List.all_eq_false]
  exact ⟨x, List.mem_of_getElem? h, by simp [hc]⟩
theorem wordsB_end (xs : List ByteArray) (k : Nat) (h : xs.length ≤ k) : wordsB (xs.take k) = wordsB xs := by
  rw [List.take_of_length_le h]

set_option maxHeartbeats 400000 in
theorem cAreAllW (b o c n : Nat) (xs : List ByteArray) (w : World) (hn : n = xs.length) (hbig : n ≤ 9223372036854775807) (hs : ∀ x ∈ xs, x.size ≤ maxLen)
    (hc : ∀ (j : Nat) x, xs[j]? = some x → w.cell? ⟨b, o + j, none⟩ = some (.string x)) :
    Calls Tryz.prog 102 #[.slice (some ⟨b, o, none⟩) n c, .func (.func 89) #[] #[]] w fun e w' => e = .returned (.bool (wordsB xs)) ∧ w = w' := by
  have HN := Lib.hid hn
  clear hn
  have HC := Lib.hid hc
  clear hc
  have HS := Lib.hid hs
  clear hs
  go_enter Tryz.func102, Tryz.ntmps102
  go_wp2
  go_loop [9] (fun i => ∃ k : Nat, k ≤ n ∧ i = .int .i64 k ∧ Hid (wordsB (xs.take k) = true)) (fun i => n - (intOf i).toNat)
  case atStart => exact ⟨0, Nat.zero_le _, rfl, Lib.hid rfl⟩
  case round =>
    obtain ⟨k, hk, rfl, HA⟩ := hrel
    by_cases hlt : k < n
    · obtain ⟨x, hx⟩ : ∃ x, xs[k]? = some x := ⟨xs[k]'(by have := HN.out; omega), List.getElem?_eq_getElem _⟩
      have hcx := HC.out k x hx
      have hsx := HS.out x (List.mem_of_getElem? hx)
      have HX := Lib.hid hx
      clear hx
      cases hb : wordB x
      · have HB := Lib.hid hb
        go_wp2_with (go_at_call 89; refine (cIsWord_impl x _ hsx).mono ?_; rintro e w' ⟨rfl, rfl⟩)
        go_ret
        exact ⟨ret_bool (wordsB_stop xs k x HX.out HB.out).symm, rfl⟩
      · have HB := Lib.hid hb
        go_wp2_with (go_at_call 89; refine (cIsWord_impl x _ hsx).mono ?_; rintro e w' ⟨rfl, rfl⟩)
        go_round
        case rel => exact ⟨k + 1, by omega, by go_num, Lib.hid (wordsB_step xs k x HX.out HA.out HB.out)⟩
        case measure => simp [intOf]; omega
    · go_wp2
      go_ret
      exact ⟨ret_bool ((wordsB_end xs k (by have := HN.out; omega)).symm.trans HA.out).symm, rfl⟩
theorem cAreWords (b o c n : Nat) (xs : List ByteArray) (w : World) (hn : n = xs.length) (hbig : n ≤ 9223372036854775807) (hs : ∀ x ∈ xs, x.size ≤ maxLen)
    (hc : ∀ (j : Nat) x, xs[j]? = some x → w.cell? ⟨b, o + j, none⟩ = some (.string x)) :
    Calls Tryz.prog 136 #[.slice (some ⟨b, o, none⟩) n c] w fun e w' => e = .returned (.bool (wordsB xs)) ∧ w = w' := by
  have CA := Lib.hid (cAreAllW b o c n xs w hn hbig hs hc)
  clear hn hbig hs hc
  generalize wordsB xs = r at CA ⊢
  go_enter Tryz.func136, Tryz.ntmps136
  go_wp2_with (go_at_call 102; refine CA.out.mono ?_; rintro e w' ⟨rfl, rfl⟩)
  go_ret
  exact ⟨rfl, rfl⟩

/-- The code of two words. -/
def twoE (a b : ByteArray) : Bool := wordB a && wordB b
theorem cells_two (w : World) (a b : ByteArray) (B : Nat) (hc : ∀ i v, (#[.string a, .string b] : Array Value)[i]? = some v → w.cell? ⟨B, i, none⟩ = some v) :
    ∀ (j : Nat) x, [a, b][j]? = some x → w.cell? ⟨B, 0 + j, none⟩ = some (.string x) := by
  intro j x h
  rw [Nat.zero_add]
  match j, h with
  | 0, h => obtain rfl : a = x := by simpa using h
            exact hc 0 _ rfl
  | 1, h => obtain rfl : b = x := by simpa using h
            exact hc 1 _ rfl

/-- impl.areWords at a fresh slice of two texts. -/
theorem cAreWords2 (a b : ByteArray) (w : World) (ha : a.size ≤ maxLen) (hb : b.size ≤ maxLen) :
    Calls Tryz.prog 136 #[.slice (some ⟨w.heap.size, 0, none⟩) 2 2] (w.alloc (.cells #[.string a, .string b] 9)) fun e w' => e = .returned (.bool (twoE a b)) ∧ w.alloc (.cells #[.string a, .string b] 9) = w' := by
  refine (cAreWords w.heap.size 0 2 2 [a, b] _ rfl (by omega) (by simp [ha, hb]) (cells_two _ a b _ ?_)).mono fun e w' ⟨he, hw⟩ => ⟨by rw [he, wordsB_two, twoE], hw⟩
  intro i v h
  rw [World.cell?_alloc_at _ _ _ _ rfl]
  exact h

end
end Go.Proofs.YtglmibmjbignbaaGreatDoor
