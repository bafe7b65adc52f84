/-
  Plain facts on words: no program is named here. 'wordB s': s has 1 to 16 bytes, each from 'a' to 'z'.
-/
import Derived.WalkKit
import Derived.Lib.Hide
import Derived.Below
import Derived.OrdersHeld
import Derived.OwnWalk
import Derived.Laws.OwnMore
import Derived.Laws.Rows
import Derived.Deep.Draws
import Derived.Test.YtglmibmjbignbaaGreatDoorChecked
import Derived.LoopTactic
import Derived.Outline
import Derived.BigQuiet
import Derived.Deep.QuietTactic
import Derived.Maps.AppendAt
import Derived.Handy
namespace Go.Proofs.YtglmibmjbignbaaGreatDoor
section
set_option linter.unusedVariables false
open Go.RowKit

theorem ret_int {k : IntKind} {a b : Int} (h : a = b) : Ending.returned (.int k a) = .returned (.int k b) := by rw [h]
theorem ret_bool {a b : Bool} (h : a = b) : Ending.returned (.bool a) = .returned (.bool b) := by rw [h]

def lowB (c : UInt8) : Bool := decide (97 ≤ c.toNat) && decide (c.toNat ≤ 122)
def lowAll (l : List UInt8) : Bool := l.all lowB
def wordB (s : ByteArray) : Bool := decide (1 ≤ s.size) && decide (s.size ≤ 16) && lowAll s.data.toList

theorem lowB_yes (c : UInt8) (h1 : (97 : Int) ≤ (c.toNat : Int)) (h2 : (c.toNat : Int) ≤ 122) : lowB c = true := by
  unfold lowB; simp; omega
theorem lowB_no (c : UInt8) (h : (c.toNat : Int) < 97 ∨ (122 : Int) < (c.toNat : Int)) : lowB c = false := by
  unfold lowB; simp; omega

theorem take_snoc (s : ByteArray) (k : Nat) (h : k < s.size) : s.data.toList.take (k + 1) = s.data.toList.take k ++ [s[k]] := by
  rw [List.take_succ_eq_append_getElem (by simpa using h)]; rfl

theorem lowAll_zero (s : ByteArray) : lowAll (s.data.toList.take 0) = true := rfl
theorem lowAll_step (s : ByteArray) (k : Nat) (h : k < s.size) (ha : lowAll (s.data.toList.take k) = true) (hc : lowB s[k] = true) : lowAll (s.data.toList.take (k + 1)) = true := by
  rw [take_snoc s k h]; unfold lowAll at *; simp [List.all_append, ha, hc]
theorem lowAll_stop (s : ByteArray) (k : Nat) (h : k < s.size) (hc : lowB s[k] = false) : lowAll s.data.toList = false := by
  unfold lowAll
  rw [List.all_eq_false]
  exact ⟨s[k], List.getElem_mem (l := s.data.toList) (by simpa using h), by simp [hc]⟩
theorem lowAll_end (s : ByteArray) (k : Nat) (h : s.size ≤ k) : lowAll (s.data.toList.take k) = lowAll s.data.toList := by
  rw [List.take_of_length_le (by simp; omega)]

theorem word_stop (s : ByteArray) (k : Nat) (h : k < s.size) (hc : lowB s[k] = false) : wordB s = false := by
  unfold wordB; rw [lowAll_stop s k h hc]; simp
theorem word_long (s : ByteArray) (h : 16 < s.size) : wordB s = false := by
  unfold wordB; rw [show decide (s.size ≤ 16) = false from decide_eq_false (by omega)]; simp
theorem word_none (s : ByteArray) (h : s.size < 1) : wordB s = false := by
  unfold wordB; rw [show decide (1 ≤ s.size) = false from decide_eq_false (by omega)]; simp
theorem word_yes (s : ByteArray) (h1 : 1 ≤ s.size) (h2 : s.size ≤ 16) (h : lowAll s.data.toList = true) : wordB s = true := by
  unfold wordB; simp [h, h1, h2]
theorem word_sum (s : ByteArray) (h : lowAll s.data.toList = true) : wordB s = (decide ((1 : Int) ≤ (s.size : Int)) && decide ((s.size : Int) ≤ 16)) := by
  unfold wordB; rw [h, Bool.and_true]
  congr 1 <;> (rw [decide_eq_decide]; omega)
theorem word_size (s : ByteArray) (h : wordB s = true) : 1 ≤ s.size ∧ s.size ≤ 16 := by
  unfold wordB at h; simp at h; exact ⟨h.1.1, h.1.2⟩
end
section
set_option linter.unusedVariables false
open Go.RowKit

/-- Q, but K where the operation ends as it should. -/
def QK (Q : Exit → Act → World → Prop) (K : Act → World → Prop) : Exit → Act → World → Prop
  | .normal, a, w => K a w
  | e, a, w => Q e a w
section
variable {P : Program} {ops : Array Oper} {Q : Exit → Act → World → Prop}
theorem upon_qk {o : Oper} {a : Act} {K : Act → World → Prop} {r : Result Next} (h : o.upon P a K (QK Q K) r) : o.upon P a K Q r := by
  cases r with
  | ok n w' =>
    cases n <;> simp only [Oper.upon] at h ⊢ <;>
      first
        | exact h
        | exact Calls.mono h (fun e w'' he => by
            cases e
            · exact he
            · exact he
            · obtain ⟨a9, w9, h9⟩ := he; exact ⟨a9, w9, h9⟩)
  | halt x w' => cases x <;> simp only [Oper.upon] at h ⊢ <;> exact h
theorem wpOp_list {i : Nat} {o : Oper} {K : Act → World → Prop} {a : Act} {w : World} (ho : ops[i]? = some o) (hg : o.guard = none)
    (h : wpList P ops (QK Q K) [o] a w) : wpOp P ops Q i K a w := by
  unfold wpOp
  rw [ho]
  simp only
  have hw : Region.wanted o (yielded ops a.tmps) = true := by unfold Region.wanted; rw [hg]
  rw [if_pos hw]
  rw [wpList.eq_def] at h
  simp only [hw, if_true] at h
  have h2 : o.wp P a w K (QK Q K) ∨ (o.asks P a w ∧ LetsOut (QK Q K)) := by
    first
      | exact h
      | (rcases h with h | h
         · exact .inl (Oper.wp_mono (fun a9 w9 h9 => by first | exact h9 | (rw [wpList.eq_def] at h9; exact h9)) h)
         · exact .inr h)
  rcases h2 with h2 | ⟨h2, a9, w9, h9⟩
  · exact .inl (upon_qk h2)
  · exact .inr ⟨h2, a9, w9, h9⟩
theorem ready_listed {listed : Array Bool} {i : Nat} (h : i ∈ Region.ready .any ops listed) : i < ops.size ∧ listed.getD i true = false ∧ ∃ o, ops[i]? = some o ∧ ∀ e ∈ o.after, Region.binds .any e = true → listed.getD e.on false = true := by
  unfold Region.ready at h
  rw [List.mem_filter, List.mem_range] at h
  obtain ⟨h1, h2⟩ := h
  rw [Bool.and_eq_true] at h2
  refine ⟨h1, by simpa using h2.1, ?_⟩
  cases ho : ops[i]? with
  | none => rw [ho] at h2; simp at h2
  | some o =>
    refine ⟨o, rfl, fun e he hb => ?_⟩
    have h3 := h2.2
    rw [ho] at h3
    simp only [Option.map_some, Option.getD_some] at h3
    rw [Array.all_eq_true] at h3
    obtain ⟨k, hk, rfl⟩ := Array.mem_iff_getElem.1 he
    have := h3 k hk
    rw [hb] at this
    simpa using this
theorem count_set : ∀ (l : List Bool) (i : Nat), l[i]? = some false → (l.set i true).countP (fun b => !b) + 1 = l.countP (fun b => !b)
  | [], i, h => by simp at h
  | b :: l, 0, h => by
    simp at h
    subst h
    simp
  | b :: l, i + 1, h => by
    rw [List.getElem?_cons_succ] at h
    rw [List.set_cons_succ, List.countP_cons, List.countP_cons, ← count_set l i h]
    omega
theorem least_false (p : Nat → Bool) : ∀ n, (∃ j, j < n ∧ p j = false) → ∃ j, j < n ∧ p j = false ∧ ∀ k, k < j → p k = true := by
  intro n
  induction n with
  | zero => rintro ⟨j, hj, _⟩; omega
  | succ n ih =>
    rintro ⟨j, hj, hp⟩
    by_cases h : ∃ j, j < n ∧ p j = false
    · obtain ⟨k, hk, h1, h2⟩ := ih h
      exact ⟨k, by omega, h1, h2⟩
    · refine ⟨j, hj, hp, fun k hk => ?_⟩
      cases hk2 : p k
      · exact absurd ⟨k, by omega, hk2⟩ h
      · rfl
theorem wpAny_facts (hord : ∀ i o, ops[i]? = some o → ∀ e ∈ o.after, Region.binds .any e = true → e.on < i) (Base : Act → World → Prop) (F : Nat → Act → World → Prop)
    (hstep : ∀ i o, ops[i]? = some o → ∀ a w, Base a w → (∀ e ∈ o.after, Region.binds .any e = true → F e.on a w) → wpOp P ops Q i (fun a' w' => Base a' w' ∧ F i a' w' ∧ ∀ j, j ≠ i → (∀ o, ops[j]? = some o → ∀ e ∈ o.after, Region.binds .any e = true → e.on ≠ i) → F j a w → F j a' w') a w)
    (hend : ∀ a w, Base a w → (∀ j, j < ops.size → F j a w) → Q .normal a w) :
    ∀ (fuel : Nat) (listed : Array Bool) (a : Act) (w : World), listed.size = ops.size → listed.toList.countP (fun b => !b) ≤ fuel → Base a w → (∀ j, listed.getD j false = true → ∀ o, ops[j]? = some o → ∀ e ∈ o.after, Region.binds .any e = true → listed.getD e.on false = true) → (∀ j, listed.getD j false = true → F j a w) → wpAny P .any ops Q fuel listed a w := by
  have hfin : ∀ (listed : Array Bool), listed.size = ops.size → listed.toList.countP (fun b => !b) = 0 → ∀ j, j < ops.size → listed.getD j false = true := by
    intro listed hs hc j hj
    rw [List.countP_eq_zero] at hc
    have hjl : j < listed.size := by omega
    have := hc listed[j] (by simp)
    simp [Array.getD, hjl]
    simpa using this
  intro fuel
  induction fuel with
  | zero =>
    intro listed a w hs hc hB hC hF
    have hall := hfin listed hs (by omega)
    refine ⟨?_, hend a w hB (fun j hj => hF j (hall j hj))⟩
    apply List.eq_nil_iff_forall_not_mem.2
    intro i hi
    obtain ⟨h1, h2, _⟩ := ready_listed hi
    have h3 := hall i h1
    have hil : i < listed.size := by omega
    simp [Array.getD, hil] at h2 h3
    rw [h3] at h2; cases h2
  | succ fuel ih =>
    intro listed a w hs hc hB hC hF
    refine ⟨fun h0 => ?_, fun i hi => ?_⟩
    · -- nothing may come up: all have come up, or the region is stuck and its end is asked all the same
      by_cases hz : ∃ j, j < ops.size ∧ listed.getD j false = false
      · exfalso
        -- the least one that has not come up waits for none that has not
        obtain ⟨j, hj, hp, hl⟩ := least_false (fun j => listed.getD j false) ops.size hz
        have hjl : j < listed.size := by omega
        have hin : j ∈ Region.ready .any ops listed := by
          unfold Region.ready
          rw [List.mem_filter, List.mem_range]
          refine ⟨hj, ?_⟩
          rw [Bool.and_eq_true]
          constructor
          · simp [Array.getD, hjl] at hp ⊢; exact hp
          · rw [Array.getElem?_eq_getElem hj]
            simp only [Option.map_some, Option.getD_some]
            rw [Array.all_eq_true]
            intro k hk
            cases hb : Region.binds .any ops[j].after[k]
            · rfl
            · have h8 := hord j ops[j] (Array.getElem?_eq_getElem hj) _ (Array.getElem_mem hk) hb
              have h9 := hl _ h8
              have h9 : listed.getD _ false = true := h9
              rw [h9]; rfl
        rw [h0] at hin
        cases hin
      · refine hend a w hB (fun j hj => hF j ?_)
        cases hj2 : listed.getD j false
        · exact absurd ⟨j, hj, hj2⟩ hz
        · rfl
    · obtain ⟨h1, h2, o, ho, ha⟩ := ready_listed hi
      refine wpOp_mono (fun a' w' hh => ?_) (hstep i o ho a w hB (fun e he hb => hF _ (ha e he hb)))
      obtain ⟨hB', hFi, hK⟩ := hh
      have hil : i < listed.size := by omega
      have hget : ∀ j, j ≠ i → (listed.setIfInBounds i true).getD j false = listed.getD j false := fun j hji => by
        simp only [Array.getD_eq_getD_getElem?]
        rw [Array.getElem?_setIfInBounds_ne (Ne.symm hji)]
      have hgi : (listed.setIfInBounds i true).getD i false = true := by
        simp only [Array.getD_eq_getD_getElem?]
        rw [Array.getElem?_setIfInBounds_self_of_lt hil]; rfl
      refine ih _ a' w' (by rw [Array.size_setIfInBounds]; exact hs) ?_ hB' (fun j hj o' ho' e he hb => ?_) (fun j hj => ?_)
      · have h4 : listed[i] = false := by simpa [Array.getD, hil] using h2
        have h5 : (listed.setIfInBounds i true).toList = listed.toList.set i true := Array.toList_setIfInBounds ..
        rw [h5]
        have h6 := count_set listed.toList i (by rw [List.getElem?_eq_getElem (by simpa using hil)]; simpa using h4)
        omega
      · by_cases hei : e.on = i
        · rw [hei]; exact hgi
        · rw [hget _ hei]
          by_cases hji : j = i
          · subst hji
            rw [ho] at ho'
            cases ho'
            exact ha e he hb
          · rw [hget j hji] at hj
            exact hC j hj o' ho' e he hb
      · by_cases hji : j = i
        · rw [hji]; exact hFi
        · rw [hget j hji] at hj
          refine hK j hji (fun o' ho' e he hb hei => ?_) (hF j hj)
          have h9 := hC j hj o' ho' e he hb
          rw [hei] at h9
          simp [Array.getD, hil] at h2 h9
          rw [h9] at h2; cases h2
/-- Every operation waits for earlier ones alone. -/
def ordB (ops : Array Oper) : Bool := (List.range ops.size).all fun i => ((ops[i]?).map (·.after.all fun e => decide (e.on < i))).getD true
theorem ord_of (h : ordB ops = true) : ∀ i o, ops[i]? = some o → ∀ e ∈ o.after, Region.binds .any e = true → e.on < i := by
  intro i o ho e he _
  unfold ordB at h
  rw [List.all_eq_true] at h
  have h2 := h i (List.mem_range.2 (Array.getElem?_eq_some_iff.1 ho).1)
  rw [ho] at h2
  simp only [Option.map_some, Option.getD_some] at h2
  rw [Array.all_eq_true] at h2
  obtain ⟨k, hk, rfl⟩ := Array.mem_iff_getElem.1 he
  simpa using h2 k hk
theorem wp_region_facts {id : Nat} {a : Act} {w : World} (hm : P.follows .mixedOrders = true) (hord : ordB ops = true) (Base : Act → World → Prop) (F : Nat → Act → World → Prop)
    (h0 : Base a w.drew)
    (hstep : ∀ i o, ops[i]? = some o → ∀ a w, Base a w → (∀ e ∈ o.after, Region.binds .any e = true → F e.on a w) → wpOp P ops Q i (fun a' w' => Base a' w' ∧ F i a' w' ∧ ∀ j, j ≠ i → (∀ o, ops[j]? = some o → ∀ e ∈ o.after, Region.binds .any e = true → e.on ≠ i) → F j a w → F j a' w') a w)
    (hend : ∀ a w, Base a w → (∀ j, j < ops.size → F j a w) → Q .normal a w) : (Code.region id ops true).wp P Q a w := by
  refine wp_region_any hm ?_
  refine wpAny_facts (ord_of hord) Base F hstep hend ops.size _ a _ (by simp) ?_ h0 (fun j hj => ?_) (fun j hj => ?_)
  · rw [Array.toList_replicate]
    exact Nat.le_trans List.countP_le_length (by simp)
  · simp [Array.getD] at hj
  · simp [Array.getD] at hj
end
/-- Every operation that binds its follower stands before it. -/
def ordC (ops : Array Oper) : Bool := (List.range ops.size).all fun i => ((ops[i]?).map (·.after.all fun e => !Region.binds .any e || decide (e.on < i))).getD true
theorem ordC_of {ops : Array Oper} (h : ordC ops = true) : ∀ i o, ops[i]? = some o → ∀ e ∈ o.after, Region.binds .any e = true → e.on < i := by
  intro i o ho e he hb
  unfold ordC at h
  rw [List.all_eq_true] at h
  have h2 := h i (List.mem_range.2 (Array.getElem?_eq_some_iff.1 ho).1)
  rw [ho] at h2
  simp only [Option.map_some, Option.getD_some] at h2
  rw [Array.all_eq_true] at h2
  obtain ⟨k, hk, rfl⟩ := Array.mem_iff_getElem.1 he
  have h3 := h2 k hk
  rw [hb] at h3
  simpa using h3
/-- The same where only the edges that bind stand in order. -/
theorem wp_region_factsC {P : Program} {ops : Array Oper} {Q : Exit → Act → World → Prop} {id : Nat} {a : Act} {w : World} (hm : P.follows .mixedOrders = true) (hord : ordC ops = true) (Base : Act → World → Prop) (F : Nat → Act → World → Prop)
    (h0 : Base a w.drew)
    (hstep : ∀ i o, ops[i]? = some o → ∀ a w, Base a w → (∀ e ∈ o.after, Region.binds .any e = true → F e.on a w) → wpOp P ops Q i (fun a' w' => Base a' w' ∧ F i a' w' ∧ ∀ j, j ≠ i → (∀ o, ops[j]? = some o → ∀ e ∈ o.after, Region.binds .any e = true → e.on ≠ i) → F j a w → F j a' w') a w)
    (hend : ∀ a w, Base a w → (∀ j, j < ops.size → F j a w) → Q .normal a w) : (Code.region id ops true).wp P Q a w := by
  refine wp_region_any hm ?_
  refine wpAny_facts (ordC_of hord) Base F hstep hend ops.size _ a _ (by simp) ?_ h0 (fun j hj => ?_) (fun j hj => ?_)
  · rw [Array.toList_replicate]
    exact Nat.le_trans List.countP_le_length (by simp)
  · simp [Array.getD] at hj
  · simp [Array.getD] at hj
end
section
set_option linter.unusedVariables false

def lcsNext (e : Nat → Bool) (prev : Nat → Int) : Nat → Int
  | 0 => 0
  | j + 1 => if e j then prev j + 1 else max (prev (j + 1)) (lcsNext e prev j)
def lcsR (e : Nat → Nat → Bool) : Nat → Nat → Int
  | 0 => fun _ => 0
  | i + 1 => lcsNext (e i) (lcsR e i)
theorem lcsR_zero (e : Nat → Nat → Bool) (j : Nat) : lcsR e 0 j = 0 := rfl
theorem lcsR_col (e : Nat → Nat → Bool) : ∀ i, lcsR e i 0 = 0
  | 0 => rfl
  | _ + 1 => rfl
theorem lcsR_hit (e : Nat → Nat → Bool) (i j : Nat) (h : e i j = true) : lcsR e (i + 1) (j + 1) = lcsR e i j + 1 := by
  show lcsNext (e i) (lcsR e i) (j + 1) = _
  rw [lcsNext, if_pos h]
theorem lcsR_miss (e : Nat → Nat → Bool) (i j : Nat) (h : e i j = false) : lcsR e (i + 1) (j + 1) = max (lcsR e i (j + 1)) (lcsR e (i + 1) j) := by
  show lcsNext (e i) (lcsR e i) (j + 1) = _
  rw [lcsNext, if_neg (by simp [h])]; rfl
theorem lcsNext_bd (e : Nat → Bool) (prev : Nat → Int) (n : Int) (hp : ∀ j, 0 ≤ prev j ∧ prev j ≤ n) : ∀ j, 0 ≤ lcsNext e prev j ∧ lcsNext e prev j ≤ n + 1
  | 0 => by have := hp 0; simp [lcsNext]; omega
  | j + 1 => by
    have h1 := hp j
    have h2 := hp (j + 1)
    have h3 := lcsNext_bd e prev n hp j
    simp only [lcsNext]
    split <;> omega
theorem lcsR_bd (e : Nat → Nat → Bool) : ∀ i j, 0 ≤ lcsR e i j ∧ lcsR e i j ≤ i
  | 0, j => by simp [lcsR_zero]
  | i + 1, j => by
    have := lcsNext_bd (e i) (lcsR e i) i (lcsR_bd e i) j
    simpa [lcsR] using this

def disNext (e : Nat → Bool) (prev : Nat → Int) : Nat → Int
  | 0 => prev 0 + 1
  | j + 1 => min (prev j + if e j then 0 else 1) (min (prev (j + 1) + 1) (disNext e prev j + 1))
def disR (e : Nat → Nat → Bool) : Nat → Nat → Int
  | 0 => fun j => j
  | i + 1 => disNext (e i) (disR e i)
theorem disR_zero (e : Nat → Nat → Bool) (j : Nat) : disR e 0 j = j := rfl
theorem disR_col (e : Nat → Nat → Bool) : ∀ i, disR e i 0 = i
  | 0 => rfl
  | i + 1 => by
    show disNext (e i) (disR e i) 0 = _
    rw [disNext, disR_col e i]; rfl
theorem disR_next (e : Nat → Nat → Bool) (i j : Nat) : disR e (i + 1) (j + 1) = min (disR e i j + if e i j then 0 else 1) (min (disR e i (j + 1) + 1) (disR e (i + 1) j + 1)) := rfl
theorem disR_bd (e : Nat → Nat → Bool) : ∀ i j, 0 ≤ disR e i j ∧ disR e i j ≤ i + j
  | 0, j => by simp [disR_zero]
  | i + 1, 0 => by rw [disR_col]; omega
  | i + 1, j + 1 => by
    have h1 := disR_bd e i j
    have h2 := disR_bd e i (j + 1)
    have h3 := disR_bd e (i + 1) j
    rw [disR_next]
    split <;> omega

/-- Whether letter i of a is letter j of b. -/
def same (a b : ByteArray) (i j : Nat) : Bool := decide (a.data.toList[i]? = b.data.toList[j]?)
theorem get_some (a : ByteArray) (i : Nat) (h : i < a.size) : a.data.toList[i]? = some a[i] := by
  rw [List.getElem?_eq_getElem (by simpa using h)]; rfl
theorem same_yes (a b : ByteArray) (i j : Nat) (hi : i < a.size) (hj : j < b.size) (h : a[i] = b[j]) : same a b i j = true := by
  unfold same; rw [get_some a i hi, get_some b j hj, h]; simp
theorem same_no (a b : ByteArray) (i j : Nat) (hi : i < a.size) (hj : j < b.size) (h : a[i] ≠ b[j]) : same a b i j = false := by
  unfold same; rw [get_some a i hi, get_some b j hj]; simp [h]
def lcs (a b : ByteArray) (i j : Nat) : Int := lcsR (same a b) i j
def dis (a b : ByteArray) (i j : Nat) : Int := disR (same a b) i j
theorem lcs_bd (a b : ByteArray) (i j : Nat) : 0 ≤ lcs a b i j ∧ lcs a b i j ≤ i := lcsR_bd _ i j
theorem dis_bd (a b : ByteArray) (i j : Nat) : 0 ≤ dis a b i j ∧ dis a b i j ≤ i + j := disR_bd _ i j
theorem beq_yes (a b : ByteArray) (i j : Nat) (hi : i < a.size) (hj : j < b.size) (h : a[i] = b[j]) : ((a[i].toNat : Int) == (b[j].toNat : Int)) = true := by rw [h]; simp
theorem beq_no (a b : ByteArray) (i j : Nat) (hi : i < a.size) (hj : j < b.size) (h : a[i] ≠ b[j]) : ((a[i].toNat : Int) == (b[j].toNat : Int)) = false := by
  rw [beq_eq_false_iff_ne]; intro hh; exact h (UInt8.toNat_inj.1 (by omega))

theorem bne_yes (a b : ByteArray) (i j : Nat) (hi : i < a.size) (hj : j < b.size) (h : a[i] = b[j]) : ((a[i].toNat : Int) != (b[j].toNat : Int)) = false := by rw [h]; simp
theorem bne_no (a b : ByteArray) (i j : Nat) (hi : i < a.size) (hj : j < b.size) (h : a[i] ≠ b[j]) : ((a[i].toNat : Int) != (b[j].toNat : Int)) = true := by
  rw [bne_iff_ne]; intro hh; exact h (UInt8.toNat_inj.1 (by omega))

/-- A table of 17 times 17 cells in one row, of which those in D hold f's values. -/
def TabOk (f : Nat → Nat → Int) (D : Nat → Nat → Prop) (cs : Array Value) : Prop :=
  cs.size = 289 ∧ ∀ i j, i ≤ 16 → j ≤ 16 → D i j → cs[i * 17 + j]? = some (.int .i64 (f i j))
theorem TabOk.set {f : Nat → Nat → Int} {D D' : Nat → Nat → Prop} {cs : Array Value} (h : TabOk f D cs) (i0 j0 : Nat) (hi : i0 ≤ 16) (hj : j0 ≤ 16) (v : Int) (hv : v = f i0 j0)
    (hD : ∀ i j, i ≤ 16 → j ≤ 16 → D' i j → D i j ∨ (i = i0 ∧ j = j0)) : TabOk f D' (cs.setIfInBounds (i0 * 17 + j0) (.int .i64 v)) := by
  refine ⟨by simp [h.1], fun i j h1 h2 h3 => ?_⟩
  by_cases he : i0 * 17 + j0 = i * 17 + j
  · have e1 : i = i0 := by omega
    have e2 : j = j0 := by omega
    subst e1; subst e2; subst hv
    rw [Array.getElem?_setIfInBounds_self_of_lt (by rw [h.1]; omega)]
  · rw [Array.getElem?_setIfInBounds_ne he]
    rcases hD i j h1 h2 h3 with hd | ⟨e1, e2⟩
    · exact h.2 i j h1 h2 hd
    · subst e1; subst e2; exact absurd rfl he
/-- Block g of the world is the table cs. -/
def TabAt (w : World) (g : Nat) (t : TypeId) (cs : Array Value) : Prop := w.heap[g]? = some (.cells cs t (0, 0))
theorem TabAt.lt {w : World} {g : Nat} {t : TypeId} {cs : Array Value} (h : TabAt w g t cs) : g < w.heap.size := (Array.getElem?_eq_some_iff.1 h).1
theorem TabAt.cell {w : World} {g : Nat} {t : TypeId} {cs : Array Value} (h : TabAt w g t cs) (i : Nat) : w.cell? ⟨g, i, none⟩ = cs[i]? := cell_of_row w g i cs t (0, 0) h
theorem TabAt.some {w : World} {g : Nat} {t : TypeId} {cs : Array Value} (h : TabAt w g t cs) {i : Nat} (hi : i < cs.size) : ∃ v, w.cell? ⟨g, i, none⟩ = some v :=
  ⟨cs[i], (h.cell i).trans (Array.getElem?_eq_getElem hi)⟩
theorem TabAt.frozen {w : World} {g : Nat} {t : TypeId} {cs : Array Value} (h : TabAt w g t cs) (i : Nat) : w.frozen? ⟨g, i, none⟩ = false := frozen_of_row w g i cs t h
theorem TabAt.dr {w : World} {g : Nat} {t : TypeId} {cs : Array Value} (h : TabAt w g t cs) (n : Nat) : TabAt (w.drewN n) g t cs := h
theorem TabAt.set {w : World} {g : Nat} {t : TypeId} {cs : Array Value} (h : TabAt w g t cs) (i : Nat) (u : Value) : TabAt (w.setCell ⟨g, i, none⟩ u) g t (cs.setIfInBounds i u) := by
  unfold TabAt at h ⊢
  simp [World.setCell, Array.getElem?_modify, h]
theorem TabAt.alloc {w : World} {g : Nat} {t : TypeId} {cs : Array Value} (h : TabAt w g t cs) (o : Obj) : TabAt (w.alloc o) g t cs := (heap_alloc_old w o h.lt).trans h
theorem TabAt.new (w : World) (t : TypeId) (cs : Array Value) : TabAt (w.alloc (.cells cs t)) w.heap.size t cs := heap_alloc_new w _
/-- The cells of the table of letters in common that stand after k whole rows and m entries of the next one. -/
def lcsD (nb k m i j : Nat) : Prop := j ≤ nb ∧ (i ≤ k ∨ (i = k + 1 ∧ j ≤ m) ∨ j = 0)
theorem lcsD_step (nb k m : Nat) (hm : m < nb) : ∀ i j, i ≤ 16 → j ≤ 16 → lcsD nb k (m + 1) i j → lcsD nb k m i j ∨ (i = k + 1 ∧ j = m + 1) := by
  intro i j _ _ h
  unfold lcsD at *
  omega
theorem TabOk.weak {f : Nat → Nat → Int} {D D' : Nat → Nat → Prop} {cs : Array Value} (h : TabOk f D cs) (hD : ∀ i j, i ≤ 16 → j ≤ 16 → D' i j → D i j) : TabOk f D' cs :=
  ⟨h.1, fun i j h1 h2 h3 => h.2 i j h1 h2 (hD i j h1 h2 h3)⟩
theorem lcsD_row (nb k : Nat) : ∀ i j, i ≤ 16 → j ≤ 16 → lcsD nb (k + 1) 0 i j → lcsD nb k nb i j := by
  intro i j _ _ h
  unfold lcsD at *
  omega
/-- The cells of the table of distances that stand after the first row and column, k further rows and m further entries of the next one. -/
def disD (na nb k m i j : Nat) : Prop := i ≤ na ∧ (j = 0 ∨ (j ≤ nb ∧ (i ≤ k ∨ (i = k + 1 ∧ j ≤ m))))
theorem disD_step (na nb k m : Nat) (hm : m < nb) : ∀ i j, i ≤ 16 → j ≤ 16 → disD na nb k (m + 1) i j → disD na nb k m i j ∨ (i = k + 1 ∧ j = m + 1) := by
  intro i j _ _ h
  unfold disD at *
  omega
theorem disD_row (na nb k : Nat) (hk : k < na) : ∀ i j, i ≤ 16 → j ≤ 16 → disD na nb (k + 1) 0 i j → disD na nb k nb i j := by
  intro i j _ _ h
  unfold disD at *
  omega

/-- The row's values 0 .. n - 1 as cells. -/
def rowV (f : Nat → Int) (n : Nat) : List Value := (List.range n).map fun j => Value.int .i64 (f j)
theorem rowV_len (f : Nat → Int) (n : Nat) : (rowV f n).length = n := by simp [rowV]
theorem rowV_at (f : Nat → Int) (n j : Nat) (h : j < n) : (rowV f n)[j]? = some (.int .i64 (f j)) := by simp [rowV, h]
theorem rowV_snoc (f : Nat → Int) (n : Nat) : rowV f n ++ [.int .i64 (f n)] = rowV f (n + 1) := by simp [rowV, List.range_succ]
theorem rowV_one (f : Nat → Int) : [Value.int .i64 (f 0)] = rowV f 1 := rfl
end
section
set_option linter.unusedVariables false

/-- A slice of integers: the numbers zs up to the capacity. -/
def IsInts (k : IntKind) (w : World) (a : Option Addr) (len cap : Nat) (zs : List Int) : Prop :=
  (a = none ∧ len = 0 ∧ cap = 0 ∧ zs = []) ∨
  ∃ x, a = some x ∧ len ≤ cap ∧ cap ≤ maxLen ∧ zs.length = cap ∧ (∀ i, i < zs.length → w.cell? (x.add i) = some (.int k (zs.getD i 0))) ∧ ∀ n ∈ zs, (Lit.int k n).wf = true
/-- A slice of texts: the texts zs up to the capacity. -/
def IsStrs (w : World) (a : Option Addr) (len cap : Nat) (zs : List ByteArray) : Prop :=
  (a = none ∧ len = 0 ∧ cap = 0 ∧ zs = []) ∨
  ∃ x, a = some x ∧ len ≤ cap ∧ cap ≤ maxLen ∧ zs.length = cap ∧ (∀ i, i < zs.length → w.cell? (x.add i) = some (.string (zs.getD i ByteArray.empty))) ∧ ∀ s ∈ zs, s.size ≤ maxLen
theorem add_plain' (b o i : Nat) : (⟨b, o, none⟩ : Addr).add i = ⟨b, o + i, none⟩ := by
  unfold Addr.add
  split
  · rename_i h; simp_all
  · rfl
/-- A slice of texts that is not empty has an address, and its cells hold its texts. -/
theorem IsStrs.row {w : World} {a : Option Addr} {len cap : Nat} {zs : List ByteArray} (h : IsStrs w a len cap zs) (hp : 0 < len) :
    ∃ b o, a = some ⟨b, o, none⟩ ∧ b < w.heap.size ∧ (zs.take len).length = len ∧ len ≤ maxLen ∧ (∀ (j : Nat) x, (zs.take len)[j]? = some x → w.cell? ⟨b, o + j, none⟩ = some (.string x)) ∧ ∀ s ∈ zs.take len, s.size ≤ maxLen := by
  rcases h with ⟨_, h, _⟩ | ⟨x, rfl, hl, hm, hz, hc, hs⟩
  · omega
  · obtain ⟨b, o, spot⟩ := x
    have hspot : spot = none := by simpa [Addr.add] using World.cell?_spot (hc 0 (by omega))
    subst hspot
    have h0 := hc 0 (by omega)
    rw [add_plain'] at h0
    refine ⟨b, o, rfl, World.block_lt_of_cell? w _ h0, by simp; omega, by omega, fun j y hj => ?_, fun s hs' => hs s (List.mem_of_mem_take hs')⟩
    have hjl := (List.getElem?_eq_some_iff.1 hj).1
    rw [List.length_take] at hjl
    have h1 := hc j (by omega)
    rw [add_plain'] at h1
    rw [h1]
    rw [List.getElem?_take, if_pos (by omega)] at hj
    simp [List.getD, hj]
end
section
set_option linter.unusedVariables false
open Go.RowKit

theorem cIn_any (n lo hi : Int) (w : World) :
    Calls Tryz.prog 83 #[.int .i64 n, .int .i64 lo, .int .i64 hi] w fun e w' => e = .returned (.bool (decide (lo ≤ n) && decide (n ≤ hi))) ∧ w = w' := by
  by_cases h1 : lo ≤ n <;> by_cases h2 : n ≤ hi
  all_goals
    go_enter Tryz.func83, Tryz.ntmps83
    go_wp2
    go_ret
    exact ⟨by simp [h1, h2], rfl⟩

set_option maxHeartbeats 400000 in
theorem cLetters (s : ByteArray) (w : World) (hs : s.size ≤ maxLen) :
    Calls Tryz.prog 138 #[.string s] w fun e w' => e = .returned (.bool (lowAll s.data.toList)) ∧ w = w' := by
  unfold maxLen at hs
  go_enter Tryz.func138, Tryz.ntmps138
  go_wp2
  go_loop [6] (fun i => ∃ k : Nat, k ≤ s.size ∧ i = .int .i64 k ∧ Hid (lowAll (s.data.toList.take k) = true)) (fun i => s.size - (intOf i).toNat)
  case atStart => exact ⟨0, Nat.zero_le _, rfl, Lib.hid (lowAll_zero s)⟩
  case round =>
    obtain ⟨k, hk, rfl, HA⟩ := hrel
    by_cases hlt : k < s.size
    · go_wp2
      all_goals first
        | (have hno : (s[k].toNat : Int) < 97 ∨ (122 : Int) < (s[k].toNat : Int) := by first | assumption | omega
           go_ret
           exact ⟨ret_bool (lowAll_stop s k hlt (lowB_no _ hno)).symm, rfl⟩)
        | (go_round
           case rel => exact ⟨k + 1, by omega, by go_num, Lib.hid (lowAll_step s k hlt HA.out (lowB_yes _ (by omega) (by omega)))⟩
           case measure => simp [intOf]; omega)
    · go_wp2
      go_ret
      exact ⟨ret_bool ((lowAll_end s k (by omega)).symm.trans HA.out).symm, rfl⟩

theorem word_mid (s : ByteArray) (h0 : ¬ s.size < 1) (h1 : ¬ 16 < s.size) : wordB s = lowAll s.data.toList := by
  cases h : lowAll s.data.toList
  · unfold wordB; simp [h]
  · exact word_yes s (by omega) (by omega) h
set_option maxHeartbeats 400000 in
theorem cIsWord_impl (s : ByteArray) (w : World) (hs : s.size ≤ maxLen) :
    Calls Tryz.prog 89 #[.string s] w fun e w' => e = .returned (.bool (wordB s)) ∧ w = w' := by
  have CL := Lib.hid (cLetters s w hs)
  unfold maxLen at hs
  by_cases h0 : s.size < 1
  · have hx := word_none s h0
    have HX := Lib.hid hx; clear hx
    go_enter Tryz.func89, Tryz.ntmps89
    go_wp2
    go_ret
    exact ⟨ret_bool HX.out.symm, rfl⟩
  by_cases h1 : 16 < s.size
  · have hx := word_long s h1
    have HX := Lib.hid hx; clear hx
    go_enter Tryz.func89, Tryz.ntmps89
    go_wp2
    go_ret
    exact ⟨ret_bool HX.out.symm, rfl⟩
  have HX := Lib.hid (word_mid s h0 h1)
  go_enter Tryz.func89, Tryz.ntmps89
  go_wp2_with (go_at_call 138; refine CL.out.mono ?_; rintro e w' ⟨rfl, rfl⟩)
  go_ret
  exact ⟨ret_bool HX.out.symm, rfl⟩

set_option maxHeartbeats 400000 in
theorem cIsWord_spec (s : ByteArray) (w : World) (hs : s.size ≤ maxLen) :
    Calls Tryz.prog 82 #[.string s] w fun e w' => e = .returned (.bool (wordB s)) ∧ w = w' := by
  unfold maxLen at hs
  go_enter Tryz.func82, Tryz.ntmps82
  go_wp2
  go_loop [3] (fun i => ∃ k : Nat, k ≤ s.size ∧ i = .int .i64 k ∧ Hid (lowAll (s.data.toList.take k) = true)) (fun i => s.size - (intOf i).toNat)
  case atStart => exact ⟨0, Nat.zero_le _, rfl, Lib.hid (lowAll_zero s)⟩
  case round =>
    obtain ⟨k, hk, rfl, HA⟩ := hrel
    by_cases hlt : k < s.size
    · go_wp2
      all_goals first
        | (have hno : (s[k].toNat : Int) < 97 ∨ (122 : Int) < (s[k].toNat : Int) := by first | assumption | omega
           go_ret
           exact ⟨ret_bool (word_stop s k hlt (lowB_no _ hno)).symm, rfl⟩)
        | (go_round
           case rel => exact ⟨k + 1, by omega, by go_num, Lib.hid (lowAll_step s k hlt HA.out (lowB_yes _ (by omega) (by omega)))⟩
           case measure => simp [intOf]; omega)
    · go_wp2_with (go_at_call 83; refine (cIn_any _ _ _ _).mono ?_; rintro e w' ⟨rfl, rfl⟩)
      go_ret
      exact ⟨ret_bool (word_sum s ((lowAll_end s k (by omega)).symm.trans HA.out)).symm, rfl⟩
end
section
set_option linter.unusedVariables false
open Go.RowKit

def CodeAt (w : World) (B : Nat) (A : Option Addr) (len : Nat) : Prop :=
  0 < len → ∃ b o, A = some ⟨b, o, none⟩ ∧ b < B ∧ b < w.heap.size ∧ ∀ j, j < len → ∃ z : Int, 0 ≤ z ∧ z ≤ 255 ∧ w.cell? ⟨b, o + j, none⟩ = some (.int .u8 z)
theorem CodeAt.kept {w w' : World} {B : Nat} {A : Option Addr} {len : Nat} (h : CodeAt w B A len) (hg : w.grownBy w' (some B)) : CodeAt w' B A len := fun hp => by
  obtain ⟨b, o, hA, hne, hlt, hc⟩ := h hp
  refine ⟨b, o, hA, hne, Nat.lt_of_lt_of_le hlt hg.size, fun j hj => ?_⟩
  obtain ⟨z, h0, h1, h2⟩ := hc j hj
  exact ⟨z, h0, h1, hg.cell h2 (by simp; omega)⟩
def srcCells (A : Option Addr) (len cap : Nat) (at_ seed : Int) : Array Value := #[.slice A len cap, .int .i64 at_, .int .i64 seed]
def Src (w : World) (B len : Nat) : Prop :=
  ∃ A cap at_ seed, TabAt w B 131 (srcCells A len cap at_ seed) ∧ 0 ≤ at_ ∧ at_ ≤ len ∧ 0 ≤ seed ∧ seed ≤ 2147483646 ∧ CodeAt w B A len
def NextPost (n : Int) (w : World) (B len : Nat) (e : Ending) (w' : World) : Prop := ∃ r : Int, 0 ≤ r ∧ (r < n ∨ r = 0) ∧ e = .returned (.int .i64 r) ∧ Src w' B len ∧ w.grownBy w' (some B)

theorem src_set2 (A : Option Addr) (len cap : Nat) (a s s1 : Int) : (srcCells A len cap a s).setIfInBounds 2 (.int .i64 s1) = srcCells A len cap a s1 := rfl
theorem src_set1 (A : Option Addr) (len cap : Nat) (a a1 s : Int) : (srcCells A len cap a s).setIfInBounds 1 (.int .i64 a1) = srcCells A len cap a1 s := rfl
theorem mod_bd (x n : Int) (hn : 1 < n) : 0 ≤ x % n ∧ (x % n < n ∨ x % n = 0) := ⟨Int.emod_nonneg _ (by omega), .inl (Int.emod_lt_of_pos _ (by omega))⟩
theorem grown_set (w : World) (B i : Nat) (u : Value) : w.grownBy (w.setCell ⟨B, i, none⟩ u) (some B) :=
  ⟨rfl, rfl, rfl, by simp, fun k hk hne => Below.heap_setCell w _ u k (fun e => hne (by rw [e]))⟩
theorem grown_dr {w w' : World} {row : Option Nat} (h : w.grownBy w' row) (n : Nat) : w.grownBy (w'.drewN n) row := ⟨h.os, h.tape, h.output, h.size, h.block⟩

set_option maxHeartbeats 2000000 in
set_option maxRecDepth 100000 in
theorem cNext (B len : Nat) (n : Int) (w : World) (hlen : len ≤ 1048576) (hn1 : -1000000000 ≤ n) (hn : n ≤ 10000000000) (h : Src w B len) :
    Calls Tryz.prog 61 #[.pointer (some ⟨B, 0, none⟩), .int .i64 n] w (NextPost n w B len) := by
  by_cases h1 : n ≤ 1
  · have H := Lib.hid h
    clear h
    go_enter Tryz.func61, Tryz.ntmps61
    go_wp2
    go_ret
    exact ⟨0, by omega, .inr rfl, rfl, H.out, World.grownBy.refl _ _⟩
  obtain ⟨A, cap, at_, seed, hT, ha0, ha1, hs0, hs1, hC⟩ := h
  have c0 : w.cell? ⟨B, 0, none⟩ = some (.slice A len cap) := (hT.cell 0).trans rfl
  have c1 : w.cell? ⟨B, 1, none⟩ = some (.int .i64 at_) := (hT.cell 1).trans rfl
  have c2 : w.cell? ⟨B, 2, none⟩ = some (.int .i64 seed) := (hT.cell 2).trans rfl
  have f1 := hT.frozen 1
  have f2 := hT.frozen 2
  have HT := Lib.hid hT
  have HC := Lib.hid hC
  clear hT hC
  by_cases hat : at_ < len
  · obtain ⟨b, o, rfl, hne, hbl, hcc⟩ := HC.out (by omega)
    obtain ⟨k, rfl⟩ : ∃ k : Nat, at_ = k := ⟨at_.toNat, by omega⟩
    obtain ⟨z, hz0, hz1, hcz⟩ := hcc k (by omega)
    clear hcc
    go_enter Tryz.func61, Tryz.ntmps61
    go_wp2
    have hb1 : 0 ≤ (seed * 48271 + 29) % 2147483647 := by omega
    have hb2 : (seed * 48271 + 29) % 2147483647 ≤ 2147483646 := by omega
    have T1 := HT.out.set 2 (.int .i64 ((seed * 48271 + 29) % 2147483647))
    rw [src_set2] at T1
    have G1 := grown_set w B 2 (.int .i64 ((seed * 48271 + 29) % 2147483647))
    generalize (seed * 48271 + 29) % 2147483647 = s1 at *
    generalize w.setCell ⟨B, 2, none⟩ (.int .i64 s1) = W1 at *
    have d0 : W1.cell? ⟨B, 0, none⟩ = some (.slice (some ⟨b, o, none⟩) len cap) := (T1.cell 0).trans rfl
    have d1 : W1.cell? ⟨B, 1, none⟩ = some (.int .i64 k) := (T1.cell 1).trans rfl
    have g1 := T1.frozen 1
    have C1 := Lib.hid (HC.out.kept G1)
    have TT := Lib.hid T1
    have GG := Lib.hid G1
    clear T1 G1 c0 c1 c2 f1 f2
    have dz : W1.cell? ⟨b, o + k, none⟩ = some (.int .u8 z) := GG.out.cell hcz (by simp; omega)
    clear hcz
    have e1 : (0 : Int) ≤ (k : Int) := Int.natCast_nonneg _
    have e2 : (k : Int) < (len : Int) := by omega
    have hmod := fun x => mod_bd x n (by omega)
    have HM := Lib.hid hmod
    clear hmod
    go_quiet (fail)
    go_wp2
    go_quiet (fail)
    go_wp2
    all_goals first
      | (go_ret
         exact ⟨_, (HM.out _).1, (HM.out _).2, rfl, ⟨(some ⟨b, o, none⟩), cap, (k : Int) + 1, s1, by rw [← src_set1 _ _ _ (k : Int)]; exact TabAt.set (w := W1) TT.out 1 _, by omega, by omega, hb1, hb2, C1.out.kept (w' := W1.setCell ⟨B, 1, none⟩ (.int .i64 ((k : Int) + 1))) (grown_set W1 B 1 _)⟩, GG.out.trans ⟨rfl, rfl, rfl, by simp, fun j hj hne => Below.heap_setCell W1 ⟨B, 1, none⟩ (.int .i64 ((k : Int) + 1)) j (fun e => hne (by rw [e]))⟩⟩)
      | (go_quiet (fail)
         go_wp2
         go_ret
         exact ⟨_, (HM.out _).1, (HM.out _).2, rfl, ⟨(some ⟨b, o, none⟩), cap, (k : Int) + 1, s1, by rw [← src_set1 _ _ _ (k : Int)]; exact TabAt.set (w := W1) TT.out 1 _, by omega, by omega, hb1, hb2, C1.out.kept (w' := W1.setCell ⟨B, 1, none⟩ (.int .i64 ((k : Int) + 1))) (grown_set W1 B 1 _)⟩, GG.out.trans ⟨rfl, rfl, rfl, by simp, fun j hj hne => Below.heap_setCell W1 ⟨B, 1, none⟩ (.int .i64 ((k : Int) + 1)) j (fun e => hne (by rw [e]))⟩⟩)
  · go_enter Tryz.func61, Tryz.ntmps61
    go_wp2
    have hb1 : 0 ≤ (seed * 48271 + 29) % 2147483647 := by omega
    have hb2 : (seed * 48271 + 29) % 2147483647 ≤ 2147483646 := by omega
    have T1 := HT.out.set 2 (.int .i64 ((seed * 48271 + 29) % 2147483647))
    rw [src_set2] at T1
    have G1 := grown_set w B 2 (.int .i64 ((seed * 48271 + 29) % 2147483647))
    generalize (seed * 48271 + 29) % 2147483647 = s1 at *
    generalize w.setCell ⟨B, 2, none⟩ (.int .i64 s1) = W1 at *
    have d0 : W1.cell? ⟨B, 0, none⟩ = some (.slice A len cap) := (T1.cell 0).trans rfl
    have d1 : W1.cell? ⟨B, 1, none⟩ = some (.int .i64 at_) := (T1.cell 1).trans rfl
    have g1 := T1.frozen 1
    have C1 := Lib.hid (HC.out.kept G1)
    have TT := Lib.hid T1
    have GG := Lib.hid G1
    clear T1 G1 c0 c1 c2 f1 f2
    have hd : decide (at_ < (len : Int)) = false := decide_eq_false (by omega)
    go_quiet (fail)
    go_wp2
    go_ret
    exact ⟨_, (mod_bd _ n (by omega)).1, (mod_bd _ n (by omega)).2, rfl, ⟨A, cap, at_, s1, TT.out, ha0, ha1, hb1, hb2, C1.out⟩, grown_dr GG.out _⟩
end
end Go.Proofs.YtglmibmjbignbaaGreatDoor
