/-
  What AddRule gives, for its law: a row of rules or nil, compared, marked and held.
-/
import Derived.Test.YtmelbfpdahaahaaAddS
import Derived.Test.YtmelbfpdahaahaaLawUseless
namespace Go.Proofs.Ytmelbfpdahaahaa
set_option linter.unusedVariables false
open Go.RowKit

/-- v is nil or a row of rules of one's own with the blocks from B to U. -/
def ROut (w : World) (B U : Nat) (v : Value) (zs : List Ru) : Prop :=
  (zs = [] ∧ v = .slice none 0 0) ∨ ∃ g c es, v = .slice (some ⟨g, 0, none⟩) zs.length c ∧ rulesOf es = zs ∧ OwnR w B g zs.length c es ∧ ∀ b ∈ g :: es.map (·.1), b < U
theorem AOut.out {zs : List Ru} {code : Int} {w w' : World} {e : Ending} (h : AOut zs code w e w') : ∃ v, e = .returned (.tuple #[v, .int .i64 code]) ∧ ROut w' w.heap.size w'.heap.size v zs ∧ Below w.heap.size w w' := by
  rcases h with ⟨rfl, rfl, hb⟩ | ⟨g, c, es, rfl, he, ho, hb⟩
  · exact ⟨_, rfl, .inl ⟨rfl, rfl⟩, hb⟩
  · exact ⟨_, rfl, .inr ⟨g, c, es, rfl, he, ho, fun b hb => (ho.2.mem_lt b hb).2⟩, hb⟩
theorem ROut.below {w w' : World} {B U : Nat} {v : Value} {zs : List Ru} (h : ROut w B U v zs) (hb : Below w.heap.size w w') : ROut w' B U v zs := by
  rcases h with h | ⟨g, c, es, rfl, he, ho, hu⟩
  · exact .inl h
  · exact .inr ⟨g, c, es, rfl, he, ho.below hb, hu⟩
theorem ROut.frame {w w' : World} {B U : Nat} {v : Value} {zs : List Ru} {S : List Nat} (h : ROut w B U v zs) (hf : FrameR S w w') (hS : ∀ b ∈ S, b < B ∨ U ≤ b) : ROut w' B U v zs := by
  rcases h with h | ⟨g, c, es, rfl, he, ho, hu⟩
  · exact .inl h
  · exact .inr ⟨g, c, es, rfl, he, ho.frame hf (fun b hb hm => by have h1 := (ho.2.mem_lt b hb).1; have h2 := hu b hb; rcases hS b hm with h | h <;> omega), hu⟩
theorem bulk_le : ∀ {rs : List Ru} {m : Nat}, (∀ r ∈ rs, r.1.length + r.2.size ≤ m) → bulk rs ≤ rs.length * m
  | [], m, _ => by simp [bulk]
  | r :: rs, m, h => by
    have h1 := h r (by simp)
    have h2 := bulk_le (rs := rs) (m := m) (fun x hx => h x (List.mem_cons_of_mem _ hx))
    have h3 : bulk (r :: rs) = r.1.length + r.2.size + bulk rs := by simp [bulk]
    rw [h3, List.length_cons, Nat.succ_mul]
    omega
theorem addZ_small (rs : List Ru) (r : Ru) : (addZ rs r).length ≤ 30 ∧ (∀ x ∈ addZ rs r, x.1.length ≤ 3 ∧ x.2.size ≤ 4) ∧ (addZ rs r).length + bulk (addZ rs r) ≤ 1048576 := by
  unfold addZ
  cases h : addOk rs r && addFits rs r
  · exact ⟨Nat.zero_le _, fun x hx => by simp at hx, by simp [bulk]⟩
  · rw [if_pos rfl]
    rw [Bool.and_eq_true] at h
    have ht : tableB (addL rs r) = true := by rw [addL_table h.1]; exact h.2
    have hl := table_len ht
    have hx : ∀ x ∈ addL rs r, x.1.length ≤ 3 ∧ x.2.size ≤ 4 := fun x hx => by
      have hr := goodT_mem (table_good ht) hx
      exact ⟨(signs_len (rule_signs hr)).2, rom_len (rule_rom hr)⟩
    have hb := bulk_le (m := 7) (fun x hm => by have := hx x hm; omega : ∀ x ∈ addL rs r, x.1.length + x.2.size ≤ 7)
    exact ⟨hl, hx, by omega⟩
theorem ROut.rules {w : World} {B U : Nat} {v : Value} {zs : List Ru} (h : ROut w B U v zs) (hs : ∀ x ∈ zs, x.1.length ≤ 3 ∧ x.2.size ≤ 4) : ∃ A c, v = .slice A zs.length c ∧ RulesAt w w.heap.size A zs.length zs := by
  rcases h with ⟨rfl, rfl⟩ | ⟨g, c, es, rfl, he, ho, hu⟩
  · exact ⟨none, 0, rfl, rfl, fun hp => absurd hp (by simp)⟩
  · refine ⟨_, c, rfl, ?_⟩
    have h1 := ho.rules (fun x hx => by rw [he] at hx; have := hs x hx; unfold maxLen; omega)
    rwa [he] at h1
/-- Both are equal. -/
theorem eq_out {w : World} {B U B' U' : Nat} {v v' : Value} {zs : List Ru} (h : ROut w B U v zs) (h' : ROut w B' U' v' zs) (hs : ∀ x ∈ zs, x.1.length ≤ 3 ∧ x.2.size ≤ 4) (hb : zs.length + bulk zs ≤ 1048576) :
    Calls Try.prog 11 #[v, v'] w fun e w' => e = .returned (.bool true) ∧ Below w.heap.size w w' := by
  obtain ⟨A, c, rfl, h1⟩ := h.rules hs
  obtain ⟨A', c', rfl, h2⟩ := h'.rules hs
  exact cEqRs A A' _ c c' zs w hb h1 h2
theorem cMarkRs_none (c : Nat) (k : Int) (w : World) :
    Calls Try.prog 12 #[.slice none 0 c, .int .i64 k] w fun e w' => e = .returned (.int .i64 k) ∧ w = w' := by
  go_enter Try.func12, Try.ntmps12
  go_wp2
  refine wp_loop_rounds 1 ?_
  rw [rounds_succ]
  go_wp2
  go_ret
  exact ⟨rfl, rfl⟩
theorem cHeldRs_none (c : Nat) (k : Int) (w : World) :
    Calls Try.prog 23 #[.slice none 0 c, .int .i64 k] w fun e w' => e = .returned (.int .i64 k) ∧ w = w' := by
  go_enter Try.func23, Try.ntmps23
  go_wp2
  refine wp_loop_rounds 1 ?_
  rw [rounds_succ]
  go_wp2
  go_ret
  exact ⟨rfl, rfl⟩
theorem totR_bound : ∀ {es : List El}, (∀ x ∈ rulesOf es, x.1.length ≤ 3) → totR es ≤ es.length * 4
  | [], _ => by simp [totR]
  | e :: es, h => by
    have h1 := h e.2.2 (by simp [rulesOf])
    have h2 := totR_bound (es := es) (fun x hx => h x (by unfold rulesOf at hx ⊢; rw [List.map_cons]; exact List.mem_cons_of_mem _ hx))
    have h3 : totR (e :: es) = e.2.2.1.length + 1 + totR es := by simp [totR]
    rw [h3, List.length_cons]
    omega
/-- Marking, and what holds as long as nothing below changes. -/
def MarkedOut (T : Nat) (S : List Nat) (v : Value) (w : World) (e : Ending) (w' : World) : Prop :=
  e = .returned (.int .i64 ((1 + T : Nat) : Int)) ∧ FrameR S w w' ∧ ∀ W, Below w'.heap.size w' W → Calls Try.prog 23 #[v, .int .i64 1] W (fun e w'' => e = .returned (.int .i64 ((1 + T : Nat) : Int)) ∧ Below W.heap.size W w'')
theorem mark_out {w : World} {B U : Nat} {v : Value} {zs : List Ru} (h : ROut w B U v zs) (hs : ∀ x ∈ zs, x.1.length ≤ 3 ∧ x.2.size ≤ 4) (hl : zs.length ≤ 30) :
    ∃ (T : Nat) (S : List Nat), T ≤ 120 ∧ (∀ b ∈ S, B ≤ b ∧ b < U) ∧ Calls Try.prog 12 #[v, .int .i64 1] w (MarkedOut T S v w) := by
  rcases h with ⟨rfl, rfl⟩ | ⟨g, c, es, rfl, he, ho, hu⟩
  · refine ⟨0, [], by omega, by simp, (cMarkRs_none 0 1 w).mono ?_⟩
    rintro e w' ⟨rfl, rfl⟩
    refine ⟨rfl, FrameR.refl _ _, fun W hW => (cHeldRs_none 0 1 W).mono ?_⟩
    rintro e w'' ⟨rfl, rfl⟩
    exact ⟨rfl, Below.refl _ _⟩
  · have ht := totR_bound (es := es) (fun x hx => by rw [he] at hx; exact (hs x hx).1)
    have hel := ho.1
    refine ⟨totR es, g :: es.map (·.1), by omega, fun b hb => ⟨(ho.2.mem_lt b hb).1, hu b hb⟩, (cMarkRs B g zs.length c 1 es w (by omega) (by omega) (by omega) ho).mono ?_⟩
    rintro e w' ⟨rfl, hm, hf⟩
    exact ⟨rfl, hf, fun W hW => cHeldRs B g zs.length c 1 es W (by omega) (by omega) (by omega) hel (hm.below hW)⟩
/-- Marking a rule of one's own. -/
theorem cMarkRule (B g n c k : Nat) (xs : List Int) (s : ByteArray) (w : World) (hB : B ≤ w.heap.size) (hn : n = xs.length) (hkn : k + n ≤ 1099511627776) (h : 0 < n → w.ownsRow B 2 1 (.slice (some ⟨g, 0, none⟩) n c) n (intV xs)) (hg : g < w.heap.size) :
    Calls Try.prog 22 #[.agg #[.slice (some ⟨g, 0, none⟩) n c, .string s], .int .i64 k] w fun e w' => e = .returned (.int .i64 ((k + n : Nat) : Int)) ∧ FrameR [g] w w' := by
  have hA := alloc_below w (.cells #[.slice (some ⟨g, 0, none⟩) n c, .string s] 39)
  have C := Lib.hid (cMarkI1 B g n c k xs (w.alloc (.cells #[.slice (some ⟨g, 0, none⟩) n c, .string s] 39)) hn hkn (fun hp => World.ownsRow.alloc (h hp) _))
  have HF := Lib.hid (FrameR.of_below (S := [g]) hA)
  clear h hn hA
  go_enter Try.func22, Try.ntmps22
  go_wp2_with fail
  refine C.out.mono ?_
  rintro e w1 ⟨rfl, _, hg1⟩
  go_wp2_with fail
  go_ret
  exact ⟨rfl, HF.out.trans (FrameR.of_grown hg1 (fun x hx => by cases hx; simp))⟩
end Go.Proofs.Ytmelbfpdahaahaa
