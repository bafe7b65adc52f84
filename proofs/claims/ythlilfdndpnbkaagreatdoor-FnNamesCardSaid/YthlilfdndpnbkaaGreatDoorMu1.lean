/-
  Plain facts on words: no program is named here. 'wordB s': s has 1 to 16 bytes, each from 'a' to 'z'.
-/
import Derived.WalkKit
import Derived.Lib.Hide
import Derived.Below
import Derived.OrdersHeld
import Derived.OwnWalk
import Derived.Laws.OwnMore
import Derived.Laws.Rows
import Derived.Deep.Draws
namespace Go.Proofs.YthlilfdndpnbkaaGreatDoor
section
set_option linter.unusedVariables false
open Go.RowKit

theorem ret_int {k : IntKind} {a b : Int} (h : a = b) : Ending.returned (.int k a) = .returned (.int k b) := by rw [h]
theorem ret_bool {a b : Bool} (h : a = b) : Ending.returned (.bool a) = .returned (.bool b) := by rw [h]

def lowB (c : UInt8) : Bool := decide (97 ≤ c.toNat) && decide (c.toNat ≤ 122)
def lowAll (l : List UInt8) : Bool := l.all lowB
def wordB (s : ByteArray) : Bool := decide (1 ≤ s.size) && decide (s.size ≤ 16) && lowAll s.data.toList

theorem lowB_yes (c : UInt8) (h1 : (97 : Int) ≤ (c.toNat : Int)) (h2 : (c.toNat : Int) ≤ 122) : lowB c = true := by
  unfold lowB; simp; omega
theorem lowB_no (c : UInt8) (h : (c.toNat : Int) < 97 ∨ (122 : Int) < (c.toNat : Int)) : lowB c = false := by
  unfold lowB; simp; omega

theorem take_snoc (s : ByteArray) (k : Nat) (h : k < s.size) : s.data.toList.take (k + 1) = s.data.toList.take k ++ [s[k]] := by
  rw [List.take_succ_eq_append_getElem (by simpa using h)]; rfl

theorem lowAll_zero (s : ByteArray) : lowAll (s.data.toList.take 0) = true := rfl
theorem lowAll_step (s : ByteArray) (k : Nat) (h : k < s.size) (ha : lowAll (s.data.toList.take k) = true) (hc : lowB s[k] = true) : lowAll (s.data.toList.take (k + 1)) = true := by
  rw [take_snoc s k h]; unfold lowAll at *; simp [List.all_append, ha, hc]
theorem lowAll_stop (s : ByteArray) (k : Nat) (h : k < s.size) (hc : lowB s[k] = false) : lowAll s.data.toList = false := by
  unfold lowAll
  rw [List.all_eq_false]
  exact ⟨s[k], List.getElem_mem (l := s.data.toList) (by simpa using h), by simp [hc]⟩
theorem lowAll_end (s : ByteArray) (k : Nat) (h : s.size ≤ k) : lowAll (s.data.toList.take k) = lowAll s.data.toList := by
  rw [List.take_of_length_le (by simp; omega)]

theorem word_stop (s : ByteArray) (k : Nat) (h : k < s.size) (hc : lowB s[k] = false) : wordB s = false := by
  unfold wordB; rw [lowAll_stop s k h hc]; simp
theorem word_long (s : ByteArray) (h : 16 < s.size) : wordB s = false := by
  unfold wordB; rw [show decide (s.size ≤ 16) = false from decide_eq_false (by omega)]; simp
theorem word_none (s : ByteArray) (h : s.size < 1) : wordB s = false := by
  unfold wordB; rw [show decide (1 ≤ s.size) = false from decide_eq_false (by omega)]; simp
theorem word_yes (s : ByteArray) (h1 : 1 ≤ s.size) (h2 : s.size ≤ 16) (h : lowAll s.data.toList = true) : wordB s = true := by
  unfold wordB; simp [h, h1, h2]
theorem word_sum (s : ByteArray) (h : lowAll s.data.toList = true) : wordB s = (decide ((1 : Int) ≤ (s.size : Int)) && decide ((s.size : Int) ≤ 16)) := by
  unfold wordB; rw [h, Bool.and_true]
  congr 1 <;> (rw [decide_eq_decide]; omega)
theorem word_size (s : ByteArray) (h : wordB s = true) : 1 ≤ s.size ∧ s.size ≤ 16 := by
  unfold wordB at h; simp at h; exact ⟨h.1.1, h.1.2⟩
end
section
set_option linter.unusedVariables false
open Go.RowKit

/-- Q, but K where the operation ends as it should. -/
def QK (Q : Exit → Act → World → Prop) (K : Act → World → Prop) : Exit → Act → World → Prop
  | .normal, a, w => K a w
  | e, a, w => Q e a w
section
variable {P : Program} {ops : Array Oper} {Q : Exit → Act → World → Prop}
theorem upon_qk {o : Oper} {a : Act} {K : Act → World → Prop} {r : Result Next} (h : o.upon P a K (QK Q K) r) : o.upon P a K Q r := by
  cases r with
  | ok n w' =>
    cases n <;> simp only [Oper.upon] at h ⊢ <;>
      first
        | exact h
        | exact Calls.mono h (fun e w'' he => by
            cases e
            · exact he
            · exact he
            · obtain ⟨a9, w9, h9⟩ := he; exact ⟨a9, w9, h9⟩)
  | halt x w' => cases x <;> simp only [Oper.upon] at h ⊢ <;> exact h
theorem wpOp_list {i : Nat} {o : Oper} {K : Act → World → Prop} {a : Act} {w : World} (ho : ops[i]? = some o) (hg : o.guard = none)
    (h : wpList P ops (QK Q K) [o] a w) : wpOp P ops Q i K a w := by
  unfold wpOp
  rw [ho]
  simp only
  have hw : Region.wanted o (yielded ops a.tmps) = true := by unfold Region.wanted; rw [hg]
  rw [if_pos hw]
  rw [wpList.eq_def] at h
  simp only [hw, if_true] at h
  have h2 : o.wp P a w K (QK Q K) ∨ (o.asks P a w ∧ LetsOut (QK Q K)) := by
    first
      | exact h
      | (rcases h with h | h
         · exact .inl (Oper.wp_mono (fun a9 w9 h9 => by first | exact h9 | (rw [wpList.eq_def] at h9; exact h9)) h)
         · exact .inr h)
  rcases h2 with h2 | ⟨h2, a9, w9, h9⟩
  · exact .inl (upon_qk h2)
  · exact .inr ⟨h2, a9, w9, h9⟩
theorem ready_listed {listed : Array Bool} {i : Nat} (h : i ∈ Region.ready .any ops listed) : i < ops.size ∧ listed.getD i true = false ∧ ∃ o, ops[i]? = some o ∧ ∀ e ∈ o.after, Region.binds .any e = true → listed.getD e.on false = true := by
  unfold Region.ready at h
  rw [List.mem_filter, List.mem_range] at h
  obtain ⟨h1, h2⟩ := h
  rw [Bool.and_eq_true] at h2
  refine ⟨h1, by simpa using h2.1, ?_⟩
  cases ho : ops[i]? with
  | none => rw [ho] at h2; simp at h2
  | some o =>
    refine ⟨o, rfl, fun e he hb => ?_⟩
    have h3 := h2.2
    rw [ho] at h3
    simp only [Option.map_some, Option.getD_some] at h3
    rw [Array.all_eq_true] at h3
    obtain ⟨k, hk, rfl⟩ := Array.mem_iff_getElem.1 he
    have := h3 k hk
    rw [hb] at this
    simpa using this
theorem count_set : ∀ (l : List Bool) (i : Nat), l[i]? = some false → (l.set i true).countP (fun b => !b) + 1 = l.countP (fun b => !b)
  | [], i, h => by simp at h
  | b :: l, 0, h => by
    simp at h
    subst h
    simp
  | b :: l, i + 1, h => by
    rw [List.getElem?_cons_succ] at h
    rw [List.set_cons_succ, List.countP_cons, List.countP_cons, ← count_set l i h]
    omega
theorem least_false (p : Nat → Bool) : ∀ n, (∃ j, j < n ∧ p j = false) → ∃ j, j < n ∧ p j = false ∧ ∀ k, k < j → p k = true := by
  intro n
  induction n with
  | zero => rintro ⟨j, hj, _⟩; omega
  | succ n ih =>
    rintro ⟨j, hj, hp⟩
    by_cases h : ∃ j, j < n ∧ p j = false
    · obtain ⟨k, hk, h1, h2⟩ := ih h
      exact ⟨k, by omega, h1, h2⟩
    · refine ⟨j, hj, hp, fun k hk => ?_⟩
      cases hk2 : p k
      · exact absurd ⟨k, by omega, hk2⟩ h
      · rfl
theorem wpAny_facts (hord : ∀ i o, ops[i]? = some o → ∀ e ∈ o.after, Region.binds .any e = true → e.on < i) (Base : Act → World → Prop) (F : Nat → Act → World → Prop)
    (hstep : ∀ i o, ops[i]? = some o → ∀ a w, Base a w → (∀ e ∈ o.after, Region.binds .any e = true → F e.on a w) → wpOp P ops Q i (fun a' w' => Base a' w' ∧ F i a' w' ∧ ∀ j, j ≠ i → (∀ o, ops[j]? = some o → ∀ e ∈ o.after, Region.binds .any e = true → e.on ≠ i) → F j a w → F j a' w') a w)
    (hend : ∀ a w, Base a w → (∀ j, j < ops.size → F j a w) → Q .normal a w) :
    ∀ (fuel : Nat) (listed : Array Bool) (a : Act) (w : World), listed.size = ops.size → listed.toList.countP (fun b => !b) ≤ fuel → Base a w → (∀ j, listed.getD j false = true → ∀ o, ops[j]? = some o → ∀ e ∈ o.after, Region.binds .any e = true → listed.getD e.on false = true) → (∀ j, listed.getD j false = true → F j a w) → wpAny P .any ops Q fuel listed a w := by
  have hfin : ∀ (listed : Array Bool), listed.size = ops.size → listed.toList.countP (fun b => !b) = 0 → ∀ j, j < ops.size → listed.getD j false = true := by
    intro listed hs hc j hj
    rw [List.countP_eq_zero] at hc
    have hjl : j < listed.size := by omega
    have := hc listed[j] (by simp)
    simp [Array.getD, hjl]
    simpa using this
  intro fuel
  induction fuel with
  | zero =>
    intro listed a w hs hc hB hC hF
    have hall := hfin listed hs (by omega)
    refine ⟨?_, hend a w hB (fun j hj => hF j (hall j hj))⟩
    apply List.eq_nil_iff_forall_not_mem.2
    intro i hi
    obtain ⟨h1, h2, _⟩ := ready_listed hi
    have h3 := hall i h1
    have hil : i < listed.size := by omega
    simp [Array.getD, hil] at h2 h3
    rw [h3] at h2; cases h2
  | succ fuel ih =>
    intro listed a w hs hc hB hC hF
    refine ⟨fun h0 => ?_, fun i hi => ?_⟩
    · -- nothing may come up: all have come up, or the region is stuck and its end is asked all the same
      by_cases hz : ∃ j, j < ops.size ∧ listed.getD j false = false
      · exfalso
        -- the least one that has not come up waits for none that has not
        obtain ⟨j, hj, hp, hl⟩ := least_false (fun j => listed.getD j false) ops.size hz
        have hjl : j < listed.size := by omega
        have hin : j ∈ Region.ready .any ops listed := by
          unfold Region.ready
          rw [List.mem_filter, List.mem_range]
          refine ⟨hj, ?_⟩
          rw [Bool.and_eq_true]
          constructor
          · simp [Array.getD, hjl] at hp ⊢; exact hp
          · rw [Array.getElem?_eq_getElem hj]
            simp only [Option.map_some, Option.getD_some]
            rw [Array.all_eq_true]
            intro k hk
            cases hb : Region.binds .any ops[j].after[k]
            · rfl
            · have h8 := hord j ops[j] (Array.getElem?_eq_getElem hj) _ (Array.getElem_mem hk) hb
              have h9 := hl _ h8
              have h9 : listed.getD _ false = true := h9
              rw [h9]; rfl
        rw [h0] at hin
        cases hin
      · refine hend a w hB (fun j hj => hF j ?_)
        cases hj2 : listed.getD j false
        · exact absurd ⟨j, hj, hj2⟩ hz
        · rfl
    · obtain ⟨h1, h2, o, ho, ha⟩ := ready_listed hi
      refine wpOp_mono (fun a' w' hh => ?_) (hstep i o ho a w hB (fun e he hb => hF _ (ha e he hb)))
      obtain ⟨hB', hFi, hK⟩ := hh
      have hil : i < listed.size := by omega
      have hget : ∀ j, j ≠ i → (listed.setIfInBounds i true).getD j false = listed.getD j false := fun j hji => by
        simp only [Array.getD_eq_getD_getElem?]
        rw [Array.getElem?_setIfInBounds_ne (Ne.symm hji)]
      have hgi : (listed.setIfInBounds i true).getD i false = true := by
        simp only [Array.getD_eq_getD_getElem?]
        rw [Array.getElem?_setIfInBounds_self_of_lt hil]; rfl
      refine ih _ a' w' (by rw [Array.size_setIfInBounds]; exact hs) ?_ hB' (fun j hj o' ho' e he hb => ?_) (fun j hj => ?_)
      · have h4 : listed[i] = false := by simpa [Array.getD, hil] using h2
        have h5 : (listed.setIfInBounds i true).toList = listed.toList.set i true := Array.toList_setIfInBounds ..
        rw [h5]
        have h6 := count_set listed.toList i (by rw [List.getElem?_eq_getElem (by simpa using hil)]; simpa using h4)
        omega
      · by_cases hei : e.on = i
        · rw [hei]; exact hgi
        · rw [hget _ hei]
          by_cases hji : j = i
          · subst hji
            rw [ho] at ho'
            cases ho'
            exact ha e he hb
          · rw [hget j hji] at hj
            exact hC j hj o' ho' e he hb
      · by_cases hji : j = i
        · rw [hji]; exact hFi
        · rw [hget j hji] at hj
          refine hK j hji (fun o' ho' e he hb hei => ?_) (hF j hj)
          have h9 := hC j hj o' ho' e he hb
          rw [hei] at h9
          simp [Array.getD, hil] at h2 h9
          rw [h9] at h2; cases h2
/-- Every operation waits for earlier ones alone. -/
def ordB (ops : Array Oper) : Bool := (List.range ops.size).all fun i => ((ops[i]?).map (·.after.all fun e => decide (e.on < i))).getD true
theorem ord_of (h : ordB ops = true) : ∀ i o, ops[i]? = some o → ∀ e ∈ o.after, Region.binds .any e = true → e.on < i := by
  intro i o ho e he _
  unfold ordB at h
  rw [List.all_eq_true] at h
  have h2 := h i (List.mem_range.2 (Array.getElem?_eq_some_iff.1 ho).1)
  rw [ho] at h2
  simp only [Option.map_some, Option.getD_some] at h2
  rw [Array.all_eq_true] at h2
  obtain ⟨k, hk, rfl⟩ := Array.mem_iff_getElem.1 he
  simpa using h2 k hk
theorem wp_region_facts {id : Nat} {a : Act} {w : World} (hm : P.follows .mixedOrders = true) (hord : ordB ops = true) (Base : Act → World → Prop) (F : Nat → Act → World → Prop)
    (h0 : Base a w.drew)
    (hstep : ∀ i o, ops[i]? = some o → ∀ a w, Base a w → (∀ e ∈ o.after, Region.binds .any e = true → F e.on a w) → wpOp P ops Q i (fun a' w' => Base a' w' ∧ F i a' w' ∧ ∀ j, j ≠ i → (∀ o, ops[j]? = some o → ∀ e ∈ o.after, Region.binds .any e = true → e.on ≠ i) → F j a w → F j a' w') a w)
    (hend : ∀ a w, Base a w → (∀ j, j < ops.size → F j a w) → Q .normal a w) : (Code.region id ops true).wp P Q a w := by
  refine wp_region_any hm ?_
  refine wpAny_facts (ord_of hord) Base F hstep hend ops.size _ a _ (by simp) ?_ h0 (fun j hj => ?_) (fun j hj => ?_)
  · rw [Array.toList_replicate]
    exact Nat.le_trans List.countP_le_length (by simp)
  · simp [Array.getD] at hj
  · simp [Array.getD] at hj
end
end
section
set_option linter.unusedVariables false

def lcsNext (e : Nat → Bool) (prev : Nat → Int) : Nat → Int
  | 0 => 0
  | j + 1 => if e j then prev j + 1 else max (prev (j + 1)) (lcsNext e prev j)
def lcsR (e : Nat → Nat → Bool) : Nat → Nat → Int
  | 0 => fun _ => 0
  | i + 1 => lcsNext (e i) (lcsR e i)
theorem lcsR_zero (e : Nat → Nat → Bool) (j : Nat) : lcsR e 0 j = 0 := rfl
theorem lcsR_col (e : Nat → Nat → Bool) : ∀ i, lcsR e i 0 = 0
  | 0 => rfl
  | _ + 1 => rfl
theorem lcsR_hit (e : Nat → Nat → Bool) (i j : Nat) (h : e i j = true) : lcsR e (i + 1) (j + 1) = lcsR e i j + 1 := by
  show lcsNext (e i) (lcsR e i) (j + 1) = _
  rw [lcsNext, if_pos h]
theorem lcsR_miss (e : Nat → Nat → Bool) (i j : Nat) (h : e i j = false) : lcsR e (i + 1) (j + 1) = max (lcsR e i (j + 1)) (lcsR e (i + 1) j) := by
  show lcsNext (e i) (lcsR e i) (j + 1) = _
  rw [lcsNext, if_neg (by simp [h])]; rfl
theorem lcsNext_bd (e : Nat → Bool) (prev : Nat → Int) (n : Int) (hp : ∀ j, 0 ≤ prev j ∧ prev j ≤ n) : ∀ j, 0 ≤ lcsNext e prev j ∧ lcsNext e prev j ≤ n + 1
  | 0 => by have := hp 0; simp [lcsNext]; omega
  | j + 1 => by
    have h1 := hp j
    have h2 := hp (j + 1)
    have h3 := lcsNext_bd e prev n hp j
    simp only [lcsNext]
    split <;> omega
theorem lcsR_bd (e : Nat → Nat → Bool) : ∀ i j, 0 ≤ lcsR e i j ∧ lcsR e i j ≤ i
  | 0, j => by simp [lcsR_zero]
  | i + 1, j => by
    have := lcsNext_bd (e i) (lcsR e i) i (lcsR_bd e i) j
    simpa [lcsR] using this

def disNext (e : Nat → Bool) (prev : Nat → Int) : Nat → Int
  | 0 => prev 0 + 1
  | j + 1 => min (prev j + if e j then 0 else 1) (min (prev (j + 1) + 1) (disNext e prev j + 1))
def disR (e : Nat → Nat → Bool) : Nat → Nat → Int
  | 0 => fun j => j
  | i + 1 => disNext (e i) (disR e i)
theorem disR_zero (e : Nat → Nat → Bool) (j : Nat) : disR e 0 j = j := rfl
theorem disR_col (e : Nat → Nat → Bool) : ∀ i, disR e i 0 = i
  | 0 => rfl
  | i + 1 => by
    show disNext (e i) (disR e i) 0 = _
    rw [disNext, disR_col e i]; rfl
theorem disR_next (e : Nat → Nat → Bool) (i j : Nat) : disR e (i + 1) (j + 1) = min (disR e i j + if e i j then 0 else 1) (min (disR e i (j + 1) + 1) (disR e (i + 1) j + 1)) := rfl
theorem disR_bd (e : Nat → Nat → Bool) : ∀ i j, 0 ≤ disR e i j ∧ disR e i j ≤ i + j
  | 0, j => by simp [disR_zero]
  | i + 1, 0 => by rw [disR_col]; omega
  | i + 1, j + 1 => by
    have h1 := disR_bd e i j
    have h2 := disR_bd e i (j + 1)
    have h3 := disR_bd e (i + 1) j
    rw [disR_next]
    split <;> omega

/-- Whether letter i of a is letter j of b. -/
def same (a b : ByteArray) (i j : Nat) : Bool := decide (a.data.toList[i]? = b.data.toList[j]?)
theorem get_some (a : ByteArray) (i : Nat) (h : i < a.size) : a.data.toList[i]? = some a[i] := by
  rw [List.getElem?_eq_getElem (by simpa using h)]; rfl
theorem same_yes (a b : ByteArray) (i j : Nat) (hi : i < a.size) (hj : j < b.size) (h : a[i] = b[j]) : same a b i j = true := by
  unfold same; rw [get_some a i hi, get_some b j hj, h]; simp
theorem same_no (a b : ByteArray) (i j : Nat) (hi : i < a.size) (hj : j < b.size) (h : a[i] ≠ b[j]) : same a b i j = false := by
  unfold same; rw [get_some a i hi, get_some b j hj]; simp [h]
def lcs (a b : ByteArray) (i j : Nat) : Int := lcsR (same a b) i j
def dis (a b : ByteArray) (i j : Nat) : Int := disR (same a b) i j
theorem lcs_bd (a b : ByteArray) (i j : Nat) : 0 ≤ lcs a b i j ∧ lcs a b i j ≤ i := lcsR_bd _ i j
theorem dis_bd (a b : ByteArray) (i j : Nat) : 0 ≤ dis a b i j ∧ dis a b i j ≤ i + j := disR_bd _ i j
theorem beq_yes (a b : ByteArray) (i j : Nat) (hi : i < a.size) (hj : j < b.size) (h : a[i] = b[j]) : ((a[i].toNat : Int) == (b[j].toNat : Int)) = true := by rw [h]; simp
theorem beq_no (a b : ByteArray) (i j : Nat) (hi : i < a.size) (hj : j < b.size) (h : a[i] ≠ b[j]) : ((a[i].toNat : Int) == (b[j].toNat : Int)) = false := by
  rw [beq_eq_false_iff_ne]; intro hh; exact h (UInt8.toNat_inj.1 (by omega))

theorem bne_yes (a b : ByteArray) (i j : Nat) (hi : i < a.size) (hj : j < b.size) (h : a[i] = b[j]) : ((a[i].toNat : Int) != (b[j].toNat : Int)) = false := by rw [h]; simp
theorem bne_no (a b : ByteArray) (i j : Nat) (hi : i < a.size) (hj : j < b.size) (h : a[i] ≠ b[j]) : ((a[i].toNat : Int) != (b[j].toNat : Int)) = true := by
  rw [bne_iff_ne]; intro hh; exact h (UInt8.toNat_inj.1 (by omega))

/-- A table of 17 times 17 cells in one row, of which those in D hold f's values. -/
def TabOk (f : Nat → Nat → Int) (D : Nat → Nat → Prop) (cs : Array Value) : Prop :=
  cs.size = 289 ∧ ∀ i j, i ≤ 16 → j ≤ 16 → D i j → cs[i * 17 + j]? = some (.int .i64 (f i j))
theorem TabOk.set {f : Nat → Nat → Int} {D D' : Nat → Nat → Prop} {cs : Array Value} (h : TabOk f D cs) (i0 j0 : Nat) (hi : i0 ≤ 16) (hj : j0 ≤ 16) (v : Int) (hv : v = f i0 j0)
    (hD : ∀ i j, i ≤ 16 → j ≤ 16 → D' i j → D i j ∨ (i = i0 ∧ j = j0)) : TabOk f D' (cs.setIfInBounds (i0 * 17 + j0) (.int .i64 v)) := by
  refine ⟨by simp [h.1], fun i j h1 h2 h3 => ?_⟩
  by_cases he : i0 * 17 + j0 = i * 17 + j
  · have e1 : i = i0 := by omega
    have e2 : j = j0 := by omega
    subst e1; subst e2; subst hv
    rw [Array.getElem?_setIfInBounds_self_of_lt (by rw [h.1]; omega)]
  · rw [Array.getElem?_setIfInBounds_ne he]
    rcases hD i j h1 h2 h3 with hd | ⟨e1, e2⟩
    · exact h.2 i j h1 h2 hd
    · subst e1; subst e2; exact absurd rfl he
/-- Block g of the world is the table cs. -/
def TabAt (w : World) (g : Nat) (t : TypeId) (cs : Array Value) : Prop := w.heap[g]? = some (.cells cs t (0, 0))
theorem TabAt.lt {w : World} {g : Nat} {t : TypeId} {cs : Array Value} (h : TabAt w g t cs) : g < w.heap.size := (Array.getElem?_eq_some_iff.1 h).1
theorem TabAt.cell {w : World} {g : Nat} {t : TypeId} {cs : Array Value} (h : TabAt w g t cs) (i : Nat) : w.cell? ⟨g, i, none⟩ = cs[i]? := cell_of_row w g i cs t (0, 0) h
theorem TabAt.some {w : World} {g : Nat} {t : TypeId} {cs : Array Value} (h : TabAt w g t cs) {i : Nat} (hi : i < cs.size) : ∃ v, w.cell? ⟨g, i, none⟩ = some v :=
  ⟨cs[i], (h.cell i).trans (Array.getElem?_eq_getElem hi)⟩
theorem TabAt.frozen {w : World} {g : Nat} {t : TypeId} {cs : Array Value} (h : TabAt w g t cs) (i : Nat) : w.frozen? ⟨g, i, none⟩ = false := frozen_of_row w g i cs t h
theorem TabAt.dr {w : World} {g : Nat} {t : TypeId} {cs : Array Value} (h : TabAt w g t cs) (n : Nat) : TabAt (w.drewN n) g t cs := h
theorem TabAt.set {w : World} {g : Nat} {t : TypeId} {cs : Array Value} (h : TabAt w g t cs) (i : Nat) (u : Value) : TabAt (w.setCell ⟨g, i, none⟩ u) g t (cs.setIfInBounds i u) := by
  unfold TabAt at h ⊢
  simp [World.setCell, Array.getElem?_modify, h]
theorem TabAt.alloc {w : World} {g : Nat} {t : TypeId} {cs : Array Value} (h : TabAt w g t cs) (o : Obj) : TabAt (w.alloc o) g t cs := (heap_alloc_old w o h.lt).trans h
theorem TabAt.new (w : World) (t : TypeId) (cs : Array Value) : TabAt (w.alloc (.cells cs t)) w.heap.size t cs := heap_alloc_new w _
/-- The cells of the table of letters in common that stand after k whole rows and m entries of the next one. -/
def lcsD (nb k m i j : Nat) : Prop := j ≤ nb ∧ (i ≤ k ∨ (i = k + 1 ∧ j ≤ m) ∨ j = 0)
theorem lcsD_step (nb k m : Nat) (hm : m < nb) : ∀ i j, i ≤ 16 → j ≤ 16 → lcsD nb k (m + 1) i j → lcsD nb k m i j ∨ (i = k + 1 ∧ j = m + 1) := by
  intro i j _ _ h
  unfold lcsD at *
  omega
theorem TabOk.weak {f : Nat → Nat → Int} {D D' : Nat → Nat → Prop} {cs : Array Value} (h : TabOk f D cs) (hD : ∀ i j, i ≤ 16 → j ≤ 16 → D' i j → D i j) : TabOk f D' cs :=
  ⟨h.1, fun i j h1 h2 h3 => h.2 i j h1 h2 (hD i j h1 h2 h3)⟩
theorem lcsD_row (nb k : Nat) : ∀ i j, i ≤ 16 → j ≤ 16 → lcsD nb (k + 1) 0 i j → lcsD nb k nb i j := by
  intro i j _ _ h
  unfold lcsD at *
  omega
/-- The cells of the table of distances that stand after the first row and column, k further rows and m further entries of the next one. -/
def disD (na nb k m i j : Nat) : Prop := i ≤ na ∧ (j = 0 ∨ (j ≤ nb ∧ (i ≤ k ∨ (i = k + 1 ∧ j ≤ m))))
theorem disD_step (na nb k m : Nat) (hm : m < nb) : ∀ i j, i ≤ 16 → j ≤ 16 → disD na nb k (m + 1) i j → disD na nb k m i j ∨ (i = k + 1 ∧ j = m + 1) := by
  intro i j _ _ h
  unfold disD at *
  omega
theorem disD_row (na nb k : Nat) (hk : k < na) : ∀ i j, i ≤ 16 → j ≤ 16 → disD na nb (k + 1) 0 i j → disD na nb k nb i j := by
  intro i j _ _ h
  unfold disD at *
  omega

/-- The row's values 0 .. n - 1 as cells. -/
def rowV (f : Nat → Int) (n : Nat) : List Value := (List.range n).map fun j => Value.int .i64 (f j)
theorem rowV_len (f : Nat → Int) (n : Nat) : (rowV f n).length = n := by simp [rowV]
theorem rowV_at (f : Nat → Int) (n j : Nat) (h : j < n) : (rowV f n)[j]? = some (.int .i64 (f j)) := by simp [rowV, h]
theorem rowV_snoc (f : Nat → Int) (n : Nat) : rowV f n ++ [.int .i64 (f n)] = rowV f (n + 1) := by simp [rowV, List.range_succ]
theorem rowV_one (f : Nat → Int) : [Value.int .i64 (f 0)] = rowV f 1 := rfl
end
end Go.Proofs.YthlilfdndpnbkaaGreatDoor
