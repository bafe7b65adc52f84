/-
  A region that draws its order, by facts: each operation is shown once, under the facts of those that it waits for.
-/
import Derived.Test.YthlilfdndpnbkaaGreatDoorPlain
import Derived.OrdersHeld
namespace Go.Proofs.YthlilfdndpnbkaaGreatDoor
set_option linter.unusedVariables false
open Go.RowKit

/-- Q, but K where the operation ends as it should. -/
def QK (Q : Exit → Act → World → Prop) (K : Act → World → Prop) : Exit → Act → World → Prop
  | .normal, a, w => K a w
  | e, a, w => Q e a w
section
variable {P : Program} {ops : Array Oper} {Q : Exit → Act → World → Prop}
theorem upon_qk {o : Oper} {a : Act} {K : Act → World → Prop} {r : Result Next} (h : o.upon P a K (QK Q K) r) : o.upon P a K Q r := by
  cases r with
  | ok n w' =>
    cases n <;> simp only [Oper.upon] at h ⊢ <;>
      first
        | exact h
        | exact Calls.mono h (fun e w'' he => by
            cases e
            · exact he
            · exact he
            · obtain ⟨a9, w9, h9⟩ := he; exact ⟨a9, w9, h9⟩)
  | halt x w' => cases x <;> simp only [Oper.upon] at h ⊢ <;> exact h
theorem wpOp_list {i : Nat} {o : Oper} {K : Act → World → Prop} {a : Act} {w : World} (ho : ops[i]? = some o) (hg : o.guard = none)
    (h : wpList P ops (QK Q K) [o] a w) : wpOp P ops Q i K a w := by
  unfold wpOp
  rw [ho]
  simp only
  have hw : Region.wanted o (yielded ops a.tmps) = true := by unfold Region.wanted; rw [hg]
  rw [if_pos hw]
  rw [wpList.eq_def] at h
  simp only [hw, if_true] at h
  have h2 : o.wp P a w K (QK Q K) ∨ (o.asks P a w ∧ LetsOut (QK Q K)) := by
    first
      | exact h
      | (rcases h with h | h
         · exact .inl (Oper.wp_mono (fun a9 w9 h9 => by first | exact h9 | (rw [wpList.eq_def] at h9; exact h9)) h)
         · exact .inr h)
  rcases h2 with h2 | ⟨h2, a9, w9, h9⟩
  · exact .inl (upon_qk h2)
  · exact .inr ⟨h2, a9, w9, h9⟩
theorem ready_listed {listed : Array Bool} {i : Nat} (h : i ∈ Region.ready .any ops listed) : i < ops.size ∧ listed.getD i true = false ∧ ∃ o, ops[i]? = some o ∧ ∀ e ∈ o.after, Region.binds .any e = true → listed.getD e.on false = true := by
  unfold Region.ready at h
  rw [List.mem_filter, List.mem_range] at h
  obtain ⟨h1, h2⟩ := h
  rw [Bool.and_eq_true] at h2
  refine ⟨h1, by simpa using h2.1, ?_⟩
  cases ho : ops[i]? with
  | none => rw [ho] at h2; simp at h2
  | some o =>
    refine ⟨o, rfl, fun e he hb => ?_⟩
    have h3 := h2.2
    rw [ho] at h3
    simp only [Option.map_some, Option.getD_some] at h3
    rw [Array.all_eq_true] at h3
    obtain ⟨k, hk, rfl⟩ := Array.mem_iff_getElem.1 he
    have := h3 k hk
    rw [hb] at this
    simpa using this
theorem count_set : ∀ (l : List Bool) (i : Nat), l[i]? = some false → (l.set i true).countP (fun b => !b) + 1 = l.countP (fun b => !b)
  | [], i, h => by simp at h
  | b :: l, 0, h => by
    simp at h
    subst h
    simp
  | b :: l, i + 1, h => by
    rw [List.getElem?_cons_succ] at h
    rw [List.set_cons_succ, List.countP_cons, List.countP_cons, ← count_set l i h]
    omega
theorem least_false (p : Nat → Bool) : ∀ n, (∃ j, j < n ∧ p j = false) → ∃ j, j < n ∧ p j = false ∧ ∀ k, k < j → p k = true := by
  intro n
  induction n with
  | zero => rintro ⟨j, hj, _⟩; omega
  | succ n ih =>
    rintro ⟨j, hj, hp⟩
    by_cases h : ∃ j, j < n ∧ p j = false
    · obtain ⟨k, hk, h1, h2⟩ := ih h
      exact ⟨k, by omega, h1, h2⟩
    · refine ⟨j, hj, hp, fun k hk => ?_⟩
      cases hk2 : p k
      · exact absurd ⟨k, by omega, hk2⟩ h
      · rfl
theorem wpAny_facts (hord : ∀ i o, ops[i]? = some o → ∀ e ∈ o.after, Region.binds .any e = true → e.on < i) (Base : Act → World → Prop) (F : Nat → Act → World → Prop)
    (hstep : ∀ i o, ops[i]? = some o → ∀ a w, Base a w → (∀ e ∈ o.after, Region.binds .any e = true → F e.on a w) → wpOp P ops Q i (fun a' w' => Base a' w' ∧ F i a' w' ∧ ∀ j, j ≠ i → (∀ o, ops[j]? = some o → ∀ e ∈ o.after, Region.binds .any e = true → e.on ≠ i) → F j a w → F j a' w') a w)
    (hend : ∀ a w, Base a w → (∀ j, j < ops.size → F j a w) → Q .normal a w) :
    ∀ (fuel : Nat) (listed : Array Bool) (a : Act) (w : World), listed.size = ops.size → listed.toList.countP (fun b => !b) ≤ fuel → Base a w → (∀ j, listed.getD j false = true → ∀ o, ops[j]? = some o → ∀ e ∈ o.after, Region.binds .any e = true → listed.getD e.on false = true) → (∀ j, listed.getD j false = true → F j a w) → wpAny P .any ops Q fuel listed a w := by
  have hfin : ∀ (listed : Array Bool), listed.size = ops.size → listed.toList.countP (fun b => !b) = 0 → ∀ j, j < ops.size → listed.getD j false = true := by
    intro listed hs hc j hj
    rw [List.countP_eq_zero] at hc
    have hjl : j < listed.size := by omega
    have := hc listed[j] (by simp)
    simp [Array.getD, hjl]
    simpa using this
  intro fuel
  induction fuel with
  | zero =>
    intro listed a w hs hc hB hC hF
    have hall := hfin listed hs (by omega)
    refine ⟨?_, hend a w hB (fun j hj => hF j (hall j hj))⟩
    apply List.eq_nil_iff_forall_not_mem.2
    intro i hi
    obtain ⟨h1, h2, _⟩ := ready_listed hi
    have h3 := hall i h1
    have hil : i < listed.size := by omega
    simp [Array.getD, hil] at h2 h3
    rw [h3] at h2; cases h2
  | succ fuel ih =>
    intro listed a w hs hc hB hC hF
    refine ⟨fun h0 => ?_, fun i hi => ?_⟩
    · -- nothing may come up: all have come up, or the region is stuck and its end is asked all the same
      by_cases hz : ∃ j, j < ops.size ∧ listed.getD j false = false
      · exfalso
        -- the least one that has not come up waits for none that has not
        obtain ⟨j, hj, hp, hl⟩ := least_false (fun j => listed.getD j false) ops.size hz
        have hjl : j < listed.size := by omega
        have hin : j ∈ Region.ready .any ops listed := by
          unfold Region.ready
          rw [List.mem_filter, List.mem_range]
          refine ⟨hj, ?_⟩
          rw [Bool.and_eq_true]
          constructor
          · simp [Array.getD, hjl] at hp ⊢; exact hp
          · rw [Array.getElem?_eq_getElem hj]
            simp only [Option.map_some, Option.getD_some]
            rw [Array.all_eq_true]
            intro k hk
            cases hb : Region.binds .any ops[j].after[k]
            · rfl
            · have h8 := hord j ops[j] (Array.getElem?_eq_getElem hj) _ (Array.getElem_mem hk) hb
              have h9 := hl _ h8
              have h9 : listed.getD _ false = true := h9
              rw [h9]; rfl
        rw [h0] at hin
        cases hin
      · refine hend a w hB (fun j hj => hF j ?_)
        cases hj2 : listed.getD j false
        · exact absurd ⟨j, hj, hj2⟩ hz
        · rfl
    · obtain ⟨h1, h2, o, ho, ha⟩ := ready_listed hi
      refine wpOp_mono (fun a' w' hh => ?_) (hstep i o ho a w hB (fun e he hb => hF _ (ha e he hb)))
      obtain ⟨hB', hFi, hK⟩ := hh
      have hil : i < listed.size := by omega
      have hget : ∀ j, j ≠ i → (listed.setIfInBounds i true).getD j false = listed.getD j false := fun j hji => by
        simp only [Array.getD_eq_getD_getElem?]
        rw [Array.getElem?_setIfInBounds_ne (Ne.symm hji)]
      have hgi : (listed.setIfInBounds i true).getD i false = true := by
        simp only [Array.getD_eq_getD_getElem?]
        rw [Array.getElem?_setIfInBounds_self_of_lt hil]; rfl
      refine ih _ a' w' (by rw [Array.size_setIfInBounds]; exact hs) ?_ hB' (fun j hj o' ho' e he hb => ?_) (fun j hj => ?_)
      · have h4 : listed[i] = false := by simpa [Array.getD, hil] using h2
        have h5 : (listed.setIfInBounds i true).toList = listed.toList.set i true := Array.toList_setIfInBounds ..
        rw [h5]
        have h6 := count_set listed.toList i (by rw [List.getElem?_eq_getElem (by simpa using hil)]; simpa using h4)
        omega
      · by_cases hei : e.on = i
        · rw [hei]; exact hgi
        · rw [hget _ hei]
          by_cases hji : j = i
          · subst hji
            rw [ho] at ho'
            cases ho'
            exact ha e he hb
          · rw [hget j hji] at hj
            exact hC j hj o' ho' e he hb
      · by_cases hji : j = i
        · rw [hji]; exact hFi
        · rw [hget j hji] at hj
          refine hK j hji (fun o' ho' e he hb hei => ?_) (hF j hj)
          have h9 := hC j hj o' ho' e he hb
          rw [hei] at h9
          simp [Array.getD, hil] at h2 h9
          rw [h9] at h2; cases h2
/-- Every operation waits for earlier ones alone. -/
def ordB (ops : Array Oper) : Bool := (List.range ops.size).all fun i => ((ops[i]?).map (·.after.all fun e => decide (e.on < i))).getD true
theorem ord_of (h : ordB ops = true) : ∀ i o, ops[i]? = some o → ∀ e ∈ o.after, Region.binds .any e = true → e.on < i := by
  intro i o ho e he _
  unfold ordB at h
  rw [List.all_eq_true] at h
  have h2 := h i (List.mem_range.2 (Array.getElem?_eq_some_iff.1 ho).1)
  rw [ho] at h2
  simp only [Option.map_some, Option.getD_some] at h2
  rw [Array.all_eq_true] at h2
  obtain ⟨k, hk, rfl⟩ := Array.mem_iff_getElem.1 he
  simpa using h2 k hk
theorem wp_region_facts {id : Nat} {a : Act} {w : World} (hm : P.follows .mixedOrders = true) (hord : ordB ops = true) (Base : Act → World → Prop) (F : Nat → Act → World → Prop)
    (h0 : Base a w.drew)
    (hstep : ∀ i o, ops[i]? = some o → ∀ a w, Base a w → (∀ e ∈ o.after, Region.binds .any e = true → F e.on a w) → wpOp P ops Q i (fun a' w' => Base a' w' ∧ F i a' w' ∧ ∀ j, j ≠ i → (∀ o, ops[j]? = some o → ∀ e ∈ o.after, Region.binds .any e = true → e.on ≠ i) → F j a w → F j a' w') a w)
    (hend : ∀ a w, Base a w → (∀ j, j < ops.size → F j a w) → Q .normal a w) : (Code.region id ops true).wp P Q a w := by
  refine wp_region_any hm ?_
  refine wpAny_facts (ord_of hord) Base F hstep hend ops.size _ a _ (by simp) ?_ h0 (fun j hj => ?_) (fun j hj => ?_)
  · rw [Array.toList_replicate]
    exact Nat.le_trans List.countP_le_length (by simp)
  · simp [Array.getD] at hj
  · simp [Array.getD] at hj
end
end Go.Proofs.YthlilfdndpnbkaaGreatDoor
