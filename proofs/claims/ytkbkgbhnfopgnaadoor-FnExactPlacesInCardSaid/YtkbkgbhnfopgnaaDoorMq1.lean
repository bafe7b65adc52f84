/-
  Plain facts on words: no program is named here. 'wordB s': s has 1 to 16 bytes, each from 'a' to 'z'.
-/
import Derived.WalkKit
import Derived.Lib.Hide
import Derived.Below
import Derived.OwnWalk
import Derived.Laws.OwnMore
import Derived.Deep.QuietTactic
namespace Go.Proofs.YtkbkgbhnfopgnaaDoor
section
set_option linter.unusedVariables false
open Go.RowKit

theorem ret_int {k : IntKind} {a b : Int} (h : a = b) : Ending.returned (.int k a) = .returned (.int k b) := by rw [h]
theorem ret_bool {a b : Bool} (h : a = b) : Ending.returned (.bool a) = .returned (.bool b) := by rw [h]

def lowB (c : UInt8) : Bool := decide (97 ≤ c.toNat) && decide (c.toNat ≤ 122)
def lowAll (l : List UInt8) : Bool := l.all lowB
def wordB (s : ByteArray) : Bool := decide (1 ≤ s.size) && decide (s.size ≤ 16) && lowAll s.data.toList

theorem lowB_yes (c : UInt8) (h1 : (97 : Int) ≤ (c.toNat : Int)) (h2 : (c.toNat : Int) ≤ 122) : lowB c = true := by
  unfold lowB; simp; omega
theorem lowB_no (c : UInt8) (h : (c.toNat : Int) < 97 ∨ (122 : Int) < (c.toNat : Int)) : lowB c = false := by
  unfold lowB; simp; omega

theorem take_snoc (s : ByteArray) (k : Nat) (h : k < s.size) : s.data.toList.take (k + 1) = s.data.toList.take k ++ [s[k]] := by
  rw [List.take_succ_eq_append_getElem (by simpa using h)]; rfl

theorem lowAll_zero (s : ByteArray) : lowAll (s.data.toList.take 0) = true := rfl
theorem lowAll_step (s : ByteArray) (k : Nat) (h : k < s.size) (ha : lowAll (s.data.toList.take k) = true) (hc : lowB s[k] = true) : lowAll (s.data.toList.take (k + 1)) = true := by
  rw [take_snoc s k h]; unfold lowAll at *; simp [List.all_append, ha, hc]
theorem lowAll_stop (s : ByteArray) (k : Nat) (h : k < s.size) (hc : lowB s[k] = false) : lowAll s.data.toList = false := by
  unfold lowAll
  rw [List.all_eq_false]
  exact ⟨s[k], List.getElem_mem (l := s.data.toList) (by simpa using h), by simp [hc]⟩
theorem lowAll_end (s : ByteArray) (k : Nat) (h : s.size ≤ k) : lowAll (s.data.toList.take k) = lowAll s.data.toList := by
  rw [List.take_of_length_le (by simp; omega)]

theorem word_stop (s : ByteArray) (k : Nat) (h : k < s.size) (hc : lowB s[k] = false) : wordB s = false := by
  unfold wordB; rw [lowAll_stop s k h hc]; simp
theorem word_long (s : ByteArray) (h : 16 < s.size) : wordB s = false := by
  unfold wordB; rw [show decide (s.size ≤ 16) = false from decide_eq_false (by omega)]; simp
theorem word_none (s : ByteArray) (h : s.size < 1) : wordB s = false := by
  unfold wordB; rw [show decide (1 ≤ s.size) = false from decide_eq_false (by omega)]; simp
theorem word_yes (s : ByteArray) (h1 : 1 ≤ s.size) (h2 : s.size ≤ 16) (h : lowAll s.data.toList = true) : wordB s = true := by
  unfold wordB; simp [h, h1, h2]
theorem word_sum (s : ByteArray) (h : lowAll s.data.toList = true) : wordB s = (decide ((1 : Int) ≤ (s.size : Int)) && decide ((s.size : Int) ≤ 16)) := by
  unfold wordB; rw [h, Bool.and_true]
  congr 1 <;> (rw [decide_eq_decide]; omega)
theorem word_size (s : ByteArray) (h : wordB s = true) : 1 ≤ s.size ∧ s.size ≤ 16 := by
  unfold wordB at h; simp at h; exact ⟨h.1.1, h.1.2⟩
end
section
set_option linter.unusedVariables false
open Go.RowKit

/-- From w to w' nothing in the blocks lo .. hi - 1 has changed. -/
structure Like (lo hi : Nat) (w w' : World) : Prop where
  os : w'.os = w.os
  tape : w'.tape = w.tape
  output : w'.output = w.output
  size : w.heap.size ≤ w'.heap.size
  block : ∀ k, lo ≤ k → k < hi → w'.heap[k]? = w.heap[k]?
theorem Like.refl (lo hi : Nat) (w : World) : Like lo hi w w := ⟨rfl, rfl, rfl, Nat.le_refl _, fun _ _ _ => rfl⟩
theorem Like.trans {lo hi : Nat} {a b c : World} (h : Like lo hi a b) (k : Like lo hi b c) : Like lo hi a c :=
  ⟨k.os.trans h.os, k.tape.trans h.tape, k.output.trans h.output, Nat.le_trans h.size k.size, fun i h1 h2 => (k.block i h1 h2).trans (h.block i h1 h2)⟩
theorem Like.of_below {lo hi B : Nat} {w w' : World} (h : Below B w w') (hB : hi ≤ B) : Like lo hi w w' := ⟨h.os, h.tape, h.output, h.size, fun k _ h2 => h.block k (Nat.lt_of_lt_of_le h2 hB)⟩
theorem Like.of_grown {lo hi : Nat} {w w' : World} {r : Option Nat} (h : w.grownBy w' r) (hw : hi ≤ w.heap.size) (hne : ∀ k, r = some k → k < lo ∨ hi ≤ k) : Like lo hi w w' :=
  ⟨h.os, h.tape, h.output, h.size, fun k h1 h2 => h.block k (Nat.lt_of_lt_of_le h2 hw) (fun e => by have := hne k e.symm; omega)⟩
theorem Like.below {hi : Nat} {w w' : World} (h : Like 0 hi w w') : Below hi w w' := ⟨h.os, h.tape, h.output, h.size, fun k h1 => h.block k (Nat.zero_le _) h1⟩
/-- P holds as long as the blocks lo .. hi - 1 lie as they lie. -/
def Sp (lo hi : Nat) (P : World → Prop) (w : World) : Prop := hi ≤ w.heap.size ∧ ∀ W, Like lo hi w W → P W
theorem Sp.here {lo hi : Nat} {P : World → Prop} {w : World} (h : Sp lo hi P w) : P w := h.2 w (Like.refl _ _ _)
theorem Sp.like {lo hi : Nat} {P : World → Prop} {w w' : World} (h : Sp lo hi P w) (hl : Like lo hi w w') : Sp lo hi P w' := ⟨Nat.le_trans h.1 hl.size, fun W hW => h.2 W (hl.trans hW)⟩
theorem Sp.next {lo hi : Nat} {P : World → Prop} {w w' : World} (h : Sp lo hi P w) (hb : Below w.heap.size w w') : Sp lo hi P w' := h.like (Like.of_below hb h.1)
theorem Sp.mark {lo hi : Nat} {P : World → Prop} {w w' : World} {r : Option Nat} (h : Sp lo hi P w) (hg : w.grownBy w' r) (hne : ∀ k, r = some k → k < lo ∨ hi ≤ k) : Sp lo hi P w' := h.like (Like.of_grown hg h.1 hne)
theorem Sp.from_ (w : World) : Sp 0 w.heap.size (fun W => Below w.heap.size w W) w := ⟨Nat.le_refl _, fun _ h => h.below⟩
theorem Sp.row {w : World} {lo s n : Nat} {t : TypeId} {v : Value} {xs : List Value} (h : w.ownsRow lo t s v n xs) : Sp lo w.heap.size (fun W => W.ownsRow lo t s v n xs) w :=
  ⟨Nat.le_refl _, fun W hW => ⟨h.1, by
    rcases h.2 with h2 | ⟨g, cap, cur, h1, h2, h3, h4⟩
    · exact .inl h2
    · exact .inr ⟨g, cap, cur, h1, h2, (hW.block g h2 (Array.getElem?_eq_some_iff.1 h3).1).trans h3, h4⟩⟩⟩
/-- A row that was written anew, in the range in which it lay. -/
theorem Sp.again {w : World} {lo hi s n : Nat} {t : TypeId} {v : Value} {xs : List Value} (h : w.ownsRow lo t s v n xs) (hlt : ∀ k, v.ownBlock = some k → k < hi) (hh : hi ≤ w.heap.size) : Sp lo hi (fun W => W.ownsRow lo t s v n xs) w :=
  ⟨hh, fun W hW => ⟨h.1, by
    rcases h.2 with h2 | ⟨g, cap, cur, h1, h2, h3, h4⟩
    · exact .inl h2
    · exact .inr ⟨g, cap, cur, h1, h2, (hW.block g h2 (hlt g (by rw [h1]; rfl))).trans h3, h4⟩⟩⟩
theorem own_range {w : World} {lo s n : Nat} {t : TypeId} {v : Value} {xs : List Value} (h : w.ownsRow lo t s v n xs) : ∀ k, v.ownBlock = some k → lo ≤ k ∧ k < w.heap.size := h.lt
theorem below_drN_r {B : Nat} {a w : World} (h : Below B a w) (n : Nat) : Below B a (w.drewN n) := ⟨h.os, h.tape, h.output, h.size, h.block⟩
end
section
set_option linter.unusedVariables false

/-- A slice of integers: the numbers zs up to the capacity. -/
def IsInts (k : IntKind) (w : World) (a : Option Addr) (len cap : Nat) (zs : List Int) : Prop :=
  (a = none ∧ len = 0 ∧ cap = 0 ∧ zs = []) ∨
  ∃ x, a = some x ∧ len ≤ cap ∧ cap ≤ maxLen ∧ zs.length = cap ∧ (∀ i, i < zs.length → w.cell? (x.add i) = some (.int k (zs.getD i 0))) ∧ ∀ n ∈ zs, (Lit.int k n).wf = true
/-- A slice of texts: the texts zs up to the capacity. -/
def IsStrs (w : World) (a : Option Addr) (len cap : Nat) (zs : List ByteArray) : Prop :=
  (a = none ∧ len = 0 ∧ cap = 0 ∧ zs = []) ∨
  ∃ x, a = some x ∧ len ≤ cap ∧ cap ≤ maxLen ∧ zs.length = cap ∧ (∀ i, i < zs.length → w.cell? (x.add i) = some (.string (zs.getD i ByteArray.empty))) ∧ ∀ s ∈ zs, s.size ≤ maxLen
theorem add_plain' (b o i : Nat) : (⟨b, o, none⟩ : Addr).add i = ⟨b, o + i, none⟩ := by
  unfold Addr.add
  split
  · rename_i h; simp_all
  · rfl
/-- A slice of texts that is not empty has an address, and its cells hold its texts. -/
theorem IsStrs.row {w : World} {a : Option Addr} {len cap : Nat} {zs : List ByteArray} (h : IsStrs w a len cap zs) (hp : 0 < len) :
    ∃ b o, a = some ⟨b, o, none⟩ ∧ b < w.heap.size ∧ (zs.take len).length = len ∧ len ≤ maxLen ∧ (∀ (j : Nat) x, (zs.take len)[j]? = some x → w.cell? ⟨b, o + j, none⟩ = some (.string x)) ∧ ∀ s ∈ zs.take len, s.size ≤ maxLen := by
  rcases h with ⟨_, h, _⟩ | ⟨x, rfl, hl, hm, hz, hc, hs⟩
  · omega
  · obtain ⟨b, o, spot⟩ := x
    have hspot : spot = none := by simpa [Addr.add] using World.cell?_spot (hc 0 (by omega))
    subst hspot
    have h0 := hc 0 (by omega)
    rw [add_plain'] at h0
    refine ⟨b, o, rfl, World.block_lt_of_cell? w _ h0, by simp; omega, by omega, fun j y hj => ?_, fun s hs' => hs s (List.mem_of_mem_take hs')⟩
    have hjl := (List.getElem?_eq_some_iff.1 hj).1
    rw [List.length_take] at hjl
    have h1 := hc j (by omega)
    rw [add_plain'] at h1
    rw [h1]
    rw [List.getElem?_take, if_pos (by omega)] at hj
    simp [List.getD, hj]
end
end Go.Proofs.YtkbkgbhnfopgnaaDoor
