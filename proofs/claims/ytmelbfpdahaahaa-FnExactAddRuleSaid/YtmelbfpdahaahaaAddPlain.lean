/-
  A rule added to a table: plain facts; one's own row of rules changed at a place and joined with another.
-/
import Derived.Test.YtmelbfpdahaahaaCopyRs
import Derived.Test.YtmelbfpdahaahaaMarkR
namespace Go.Proofs.Ytmelbfpdahaahaa
set_option linter.unusedVariables false
open Go.RowKit

def addL (rs : List Ru) (r : Ru) : List Ru := if r.1 ∈ keys rs then rs.set (posK (keys rs) r.1) r else rs ++ [r]
def addOk (rs : List Ru) (r : Ru) : Bool := tableB rs && ruleB r
def addFits (rs : List Ru) (r : Ru) : Bool := decide (r.1 ∈ keys rs) || decide (rs.length < 30)
def addZ (rs : List Ru) (r : Ru) : List Ru := if addOk rs r && addFits rs r then addL rs r else []
def addC (rs : List Ru) (r : Ru) : Int := if addOk rs r then (if addFits rs r then 0 else 5) else 1
theorem addL_found {rs : List Ru} {r : Ru} (h : r.1 ∈ keys rs) : addL rs r = rs.set (posK (keys rs) r.1) r := by unfold addL; rw [if_pos h]
theorem addL_new {rs : List Ru} {r : Ru} (h : r.1 ∉ keys rs) : addL rs r = rs ++ [r] := by unfold addL; rw [if_neg h]
theorem addL_len (rs : List Ru) (r : Ru) : rs.length ≤ (addL rs r).length ∧ (addL rs r).length ≤ rs.length + 1 := by
  unfold addL; split <;> simp
theorem add_bad {rs : List Ru} {r : Ru} (h : addOk rs r = false) : addZ rs r = [] ∧ addC rs r = 1 := by unfold addZ addC; rw [h]; exact ⟨rfl, rfl⟩
theorem add_full {rs : List Ru} {r : Ru} (h : addOk rs r = true) (h2 : addFits rs r = false) : addZ rs r = [] ∧ addC rs r = 5 := by unfold addZ addC; rw [h, h2]; exact ⟨rfl, rfl⟩
theorem add_good {rs : List Ru} {r : Ru} (h : addOk rs r = true) (h2 : addFits rs r = true) : addZ rs r = addL rs r ∧ addC rs r = 0 := by unfold addZ addC; rw [h, h2]; exact ⟨rfl, rfl⟩
/-- The result is a table just where it fits. -/
theorem addL_table {rs : List Ru} {r : Ru} (h : addOk rs r = true) : tableB (addL rs r) = addFits rs r := by
  unfold addOk at h
  rw [Bool.and_eq_true] at h
  obtain ⟨ht, hr⟩ := h
  have hg := table_good ht
  have hl := table_len ht
  by_cases hm : r.1 ∈ keys rs
  · rw [addL_found hm]
    have hf : addFits rs r = true := by unfold addFits; rw [decide_eq_true hm]; rfl
    rw [hf]
    obtain ⟨p1, p2⟩ := posK_lt (keys rs) r.1 hm
    have hk : keys (rs.set (posK (keys rs) r.1) r) = keys rs := by
      unfold keys
      rw [List.map_set]
      apply List.ext_getElem?
      intro j
      rw [List.getElem?_set]
      split
      · rename_i e
        subst e
        rw [if_pos (by unfold keys at p1; exact p1)]
        unfold keys at p2
        exact p2.symm
      · rfl
    refine table_yes ?_ (by simpa using hl)
    unfold goodT
    rw [hk, Bool.and_eq_true]
    refine ⟨List.all_eq_true.2 fun x hx => ?_, by simpa using goodT_nodup hg⟩
    rcases List.mem_or_eq_of_mem_set hx with hx | rfl
    · exact goodT_mem hg hx
    · exact hr
  · rw [addL_new hm]
    have hgd : goodT (rs ++ [r]) = true := by
      unfold goodT
      rw [Bool.and_eq_true]
      refine ⟨List.all_eq_true.2 fun x hx => ?_, ?_⟩
      · rcases List.mem_append.1 hx with hx | hx
        · exact goodT_mem hg hx
        · rw [List.mem_singleton] at hx; rw [hx]; exact hr
      · have hk : keys (rs ++ [r]) = keys rs ++ [r.1] := by simp [keys]
        rw [hk, decide_eq_true_eq, List.nodup_append]
        exact ⟨goodT_nodup hg, by simp, fun a ha b hb e => by rw [List.mem_singleton] at hb; rw [← hb, ← e] at hm; exact hm ha⟩
    unfold tableB addFits
    rw [hgd, decide_eq_false hm, List.length_append, List.length_singleton]
    simp; omega

/-- A row of rules (or nil) and a code come back; the row is new. -/
def AOut (zs : List Ru) (code : Int) (w : World) (e : Ending) (w' : World) : Prop :=
  (zs = [] ∧ e = .returned (.tuple #[.slice none 0 0, .int .i64 code]) ∧ Below w.heap.size w w') ∨
  (∃ g c es, e = .returned (.tuple #[.slice (some ⟨g, 0, none⟩) zs.length c, .int .i64 code]) ∧ rulesOf es = zs ∧ OwnR w' w.heap.size g zs.length c es ∧ Below w.heap.size w w')

theorem OwnR.setText {w : World} {B g n c j : Nat} {es : List El} {e : El} (h : OwnR w B g n c es) (hj : es[j]? = some e) (t : ByteArray) : OwnR (w.setCell ⟨g, j * 2 + 1, none⟩ (.string t)) B g n c (es.set j (e.1, e.2.1, (e.2.2.1, t))) := by
  have hjl := (List.getElem?_eq_some_iff.1 hj).1
  have hs := split_at hj
  have hset : es.set j (e.1, e.2.1, (e.2.2.1, t)) = es.take j ++ (e.1, e.2.1, (e.2.2.1, t)) :: es.drop (j + 1) := List.set_eq_take_append_cons_drop.trans (if_pos hjl)
  have hlt : (es.take j).length = j := by rw [List.length_take]; omega
  rw [hset]
  have h1 : OwnR w B g n c (es.take j ++ e :: es.drop (j + 1)) := by rw [← hs]; exact h
  refine h1.replace rfl (by simp) ?_ ?_ ?_
  · have h2 := (h1.outer.stored (j * 2 + 1) (.string t)).1
    have h3 := elsV_text (es.take j) (es.drop (j + 1)) e t e.2.2.1 rfl
    rw [hlt] at h3
    rw [h3] at h2
    exact h2
  · intro hp
    obtain ⟨i1, i2, i3⟩ := h.2.inner e (List.mem_of_getElem? hj)
    refine ownsRow_block (i3 hp) (Below.heap_setCell _ _ _ _ ?_)
    show e.1 ≠ g
    rintro e0
    have := h.2.nodup
    rw [List.nodup_cons] at this
    exact this.1 (by rw [← e0]; exact List.mem_map_of_mem (List.mem_of_getElem? hj))
  · intro b _ hb _
    exact Below.heap_setCell _ _ _ _ (by exact hb)
theorem OwnR.join {w w' : World} {B B' g n c g2 m c2 g' c' : Nat} {es es2 : List El} (h1 : OwnR w B g n c es) (h2 : OwnR w B' g2 m c2 es2) (hB : B ≤ B') (hd : ∀ b ∈ g :: es.map (·.1), b < B')
    (hrow : w'.ownsRow B 39 2 (.slice (some ⟨g', 0, none⟩) (n + m) c') (n + m) (elsV es ++ elsV es2)) (hg : w.grownBy w' (some g)) (hor : g = g' ∨ g' = w.heap.size) : OwnR w' B g' (n + m) c' (es ++ es2) := by
  have hlen : (es ++ es2).length = n + m := by rw [List.length_append, h1.1, h2.1]
  have n1 := h1.2.nodup
  have n2 := h2.2.nodup
  rw [List.nodup_cons] at n1 n2
  have hg2 := h2.2.mem_lt
  have hg1 := h1.2.mem_lt
  refine ⟨hlen, ⟨by omega, by rw [hlen, Nat.sub_self, show zerosR 0 = [] from rfl, List.append_nil, elsV_app]; exact hrow, ?_, ?_⟩⟩
  · intro e he
    rcases List.mem_append.1 he with he | he
    · obtain ⟨i1, i2, i3⟩ := h1.2.inner e he
      have hne : e.1 ≠ g := fun e0 => n1.1 (by rw [← e0]; exact List.mem_map_of_mem he)
      exact ⟨i1, Nat.lt_of_lt_of_le i2 hg.size, fun hp => ownsRow_block (i3 hp) (hg.block e.1 i2 (by intro e0; cases e0; exact hne rfl))⟩
    · obtain ⟨i1, i2, i3⟩ := h2.2.inner e he
      have hne : e.1 ≠ g := fun e0 => by have := hd g (by simp); omega
      exact ⟨by omega, Nat.lt_of_lt_of_le i2 hg.size, fun hp => rowBase (ownsRow_block (i3 hp) (hg.block e.1 i2 (by intro e0; cases e0; exact hne rfl))) hB⟩
  · rw [List.map_append, List.nodup_cons, List.nodup_append]
    refine ⟨?_, n1.2, n2.2, ?_⟩
    · rw [List.mem_append]
      rintro (hm | hm)
      · rcases hor with rfl | rfl
        · exact n1.1 hm
        · have := (hg1 _ (List.mem_cons_of_mem _ hm)).2; omega
      · rcases hor with rfl | rfl
        · have h3 := (hg2 _ (List.mem_cons_of_mem _ hm)).1
          have h4 := hd g (by simp)
          omega
        · have := (hg2 _ (List.mem_cons_of_mem _ hm)).2; omega
    · intro a ha b hb e0
      subst e0
      have h3 := (hg2 _ (List.mem_cons_of_mem _ hb)).1
      have h4 := hd _ (List.mem_cons_of_mem _ ha)
      omega
theorem OwnR.base {w : World} {B B' g n c : Nat} {es : List El} (h : OwnR w B g n c es) (hB : B' ≤ B) : OwnR w B' g n c es :=
  ⟨h.1, ⟨h.2.len, rowBase h.2.row hB, fun e he => by
    obtain ⟨i1, i2, i3⟩ := h.2.inner e he
    exact ⟨Nat.le_trans hB i1, i2, fun hp => rowBase (i3 hp) hB⟩, h.2.nodup⟩⟩
theorem AOut.mk {w w' : World} {zs : List Ru} {code : Int} {B g m c : Nat} {es : List El} (h : OwnR w' B g m c es) (hB : w.heap.size ≤ B) (he : rulesOf es = zs) (hb : Below w.heap.size w w') : AOut zs code w (.returned (.tuple #[.slice (some ⟨g, 0, none⟩) m c, .int .i64 code])) w' := by
  have hm : m = zs.length := by rw [← he, ← h.1]; simp [rulesOf]
  subst hm
  exact .inr ⟨g, c, es, rfl, he, h.base hB, hb⟩
theorem rulesOf_at {es : List El} {rs : List Ru} {p : Nat} {x : Ru} (h : rulesOf es = rs) (hx : rs[p]? = some x) : ∃ e, es[p]? = some e ∧ e.2.2 = x := by
  subst h
  unfold rulesOf at hx
  rw [List.getElem?_map] at hx
  cases he : es[p]? with
  | none => rw [he] at hx; cases hx
  | some e => rw [he] at hx; exact ⟨e, rfl, Option.some.inj hx⟩
theorem elsV_one (es : List El) : ∀ u ∈ elsV es, u.oneCell' = true := by
  intro u hu
  unfold elsV at hu
  rw [List.mem_flatMap] at hu
  obtain ⟨e, _, hu⟩ := hu
  unfold elV at hu
  simp at hu
  rcases hu with rfl | rfl <;> rfl
end Go.Proofs.Ytmelbfpdahaahaa
