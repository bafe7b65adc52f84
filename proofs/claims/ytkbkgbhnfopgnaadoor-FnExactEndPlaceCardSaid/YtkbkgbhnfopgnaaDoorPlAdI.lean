/-
  The contract of AddPlace of the program.
-/
import Derived.Test.YtkbkgbhnfopgnaaDoorPlFS
import Derived.Test.YtkbkgbhnfopgnaaDoorPlInG
import Derived.Test.YtkbkgbhnfopgnaaDoorMq8
import Derived.Deep.RegionHeld3
namespace Go.Proofs.YtkbkgbhnfopgnaaDoor
set_option linter.unusedVariables false
open Go.RowKit Go.Lib

def insP (ps : List Pl) (p : Pl) : List Pl := ps.take (atP ps p.c) ++ [p] ++ ps.drop (atP ps p.c)
noncomputable def adC (ps : List Pl) (p : Pl) : Int := if regB ps && plB p then (if thereB ps p.c || decide (ps.length = 10) then 5 else 0) else 1
noncomputable def adZ (ps : List Pl) (p : Pl) : List Pl := if adC ps p = 0 then insP ps p else []
theorem adZ_ok {ps : List Pl} {p : Pl} (h : adC ps p = 0) : adZ ps p = insP ps p := by unfold adZ; rw [if_pos h]
theorem adZ_no {ps : List Pl} {p : Pl} (h : adC ps p ≠ 0) : adZ ps p = [] := by unfold adZ; rw [if_neg h]
theorem ad_cases (ps : List Pl) (p : Pl) : (adC ps p = 1 ∧ regB ps = false) ∨ (adC ps p = 1 ∧ regB ps = true ∧ plB p = false) ∨ (adC ps p = 5 ∧ regB ps = true ∧ plB p = true ∧ thereB ps p.c = true) ∨ (adC ps p = 5 ∧ regB ps = true ∧ plB p = true ∧ thereB ps p.c = false ∧ ps.length = 10) ∨ (adC ps p = 0 ∧ regB ps = true ∧ plB p = true ∧ thereB ps p.c = false ∧ ps.length ≠ 10) := by
  unfold adC
  cases h1 : regB ps
  · exact .inl ⟨rfl, rfl⟩
  cases h2 : plB p
  · exact .inr (.inl ⟨rfl, rfl, rfl⟩)
  cases h3 : thereB ps p.c
  · by_cases h4 : ps.length = 10
    · exact .inr (.inr (.inr (.inl ⟨by simp [h4], rfl, rfl, rfl, h4⟩)))
    · exact .inr (.inr (.inr (.inr ⟨by simp [h4], rfl, rfl, rfl, h4⟩)))
  · exact .inr (.inr (.inl ⟨rfl, rfl, rfl, rfl⟩))
theorem insP_len (ps : List Pl) (p : Pl) : (insP ps p).length = ps.length + 1 := by
  have := atP_le ps p.c
  unfold insP; simp; omega
theorem insP_at (ps : List Pl) (p : Pl) (j : Nat) : (insP ps p)[j]? = if j < atP ps p.c then ps[j]? else if j = atP ps p.c then some p else ps[j - 1]? := by
  have hle := atP_le ps p.c
  have hl : (ps.take (atP ps p.c)).length = atP ps p.c := by rw [List.length_take]; omega
  unfold insP
  rw [List.append_assoc]
  by_cases h1 : j < atP ps p.c
  · rw [if_pos h1, List.getElem?_append_left (by omega), List.getElem?_take, if_pos h1]
  · rw [if_neg h1, List.getElem?_append_right (by omega), hl]
    by_cases h2 : j = atP ps p.c
    · rw [if_pos h2, h2, Nat.sub_self]; rfl
    · rw [if_neg h2]
      obtain ⟨d, hd⟩ : ∃ d, j - atP ps p.c = d + 1 := ⟨j - atP ps p.c - 1, by omega⟩
      rw [hd, List.singleton_append, List.getElem?_cons_succ, List.getElem?_drop]
      congr 1; omega
/-- A further place at its place makes a register where there is none with its code and there is room. -/
theorem insP_reg {ps : List Pl} {p : Pl} (h : regB ps = true) (hp : plB p = true) : regB (insP ps p) = true ↔ (thereB ps p.c = false ∧ ps.length ≠ 10) := by
  have hg := reg_of h
  have hle := atP_le ps p.c
  constructor
  · intro hi
    have hi2 := reg_of hi
    rw [insP_len] at hi2
    refine ⟨?_, by omega⟩
    cases ht : thereB ps p.c
    · rfl
    · exfalso
      obtain ⟨q, hq, hc⟩ := there_get ht
      have h1 : (insP ps p)[atP ps p.c]? = some p := by rw [insP_at, if_neg (by omega), if_pos rfl]
      have h2 : (insP ps p)[atP ps p.c + 1]? = some q := by rw [insP_at, if_neg (by omega), if_neg (by omega)]; exact hq
      have h3 := goodP_pair hi2.2 (Nat.lt_succ_self _) h1 h2
      rw [hc] at h3
      exact ltT_irr _ h3
  · rintro ⟨ht, hl⟩
    refine reg_yes (by rw [insP_len]; omega) (fun k x hx => ?_)
    rw [insP_at] at hx
    by_cases h1 : k < atP ps p.c
    · rw [if_pos h1] at hx
      refine ⟨(hg.2 k x hx).1, fun q h0 hq => ?_⟩
      rw [insP_at, if_pos (by omega)] at hq
      exact (hg.2 k x hx).2 q h0 hq
    · rw [if_neg h1] at hx
      by_cases h2 : k = atP ps p.c
      · rw [if_pos h2] at hx
        obtain rfl := Option.some.inj hx
        refine ⟨hp, fun q h0 hq => ?_⟩
        rw [insP_at, if_pos (by omega)] at hq
        exact atP_lt (by omega) hq
      · rw [if_neg h2] at hx
        refine ⟨(hg.2 (k - 1) x hx).1, fun q h0 hq => ?_⟩
        rw [insP_at, if_neg (by omega)] at hq
        by_cases h3 : k - 1 = atP ps p.c
        · rw [if_pos h3] at hq
          obtain rfl := Option.some.inj hq
          rw [h3] at hx
          have h4 := atP_stop hx
          rw [there_some hx] at ht
          have h5 := of_decide_eq_false ht
          rw [ltB_not] at h4
          rw [ltB_iff]
          exact ltT_tri _ _ h4 h5
        · rw [if_neg h3] at hq
          exact (hg.2 (k - 1) x hx).2 q (by omega) hq
theorem insP_pls (es : List PE) (q : PE) (k : Nat) : plsOf (es.take k ++ [q] ++ es.drop k) = (plsOf es).take k ++ [q.p] ++ (plsOf es).drop k := by simp [plsOf]
theorem ad_reg {ps : List Pl} {p : Pl} (h : adC ps p = 0) : regB (insP ps p) = true := by
  rcases ad_cases ps p with ⟨h1, _⟩ | ⟨h1, _⟩ | ⟨h1, _⟩ | ⟨h1, _⟩ | ⟨_, e1, e2, e3, e4⟩
  · rw [h1] at h; cases h
  · rw [h1] at h; cases h
  · rw [h1] at h; cases h
  · rw [h1] at h; cases h
  · exact (insP_reg e1 e2).2 ⟨e3, e4⟩
theorem adZ_wide (ps : List Pl) (p : Pl) : ∀ es, plsOf es = adZ ps p → wideL es ≤ 1048576 := by
  by_cases h : adC ps p = 0
  · rw [adZ_ok h]; exact reg_wide (ad_reg h)
  · rw [adZ_no h]; exact nil_wide
theorem adZ_len (ps : List Pl) (p : Pl) : (adZ ps p).length ≤ 1048576 := by
  by_cases h : adC ps p = 0
  · rw [adZ_ok h]; have := (reg_of (ad_reg h)).1; omega
  · rw [adZ_no h]; simp
theorem adZ_sz {ps : List Pl} {p : Pl} (h1 : Sz11 ps) (h2 : p.c.size ≤ 1048576 ∧ p.ns.length ≤ 1048576 ∧ ∀ e ∈ p.ns, e.t.size ≤ 1048576 ∧ e.l.size ≤ 1048576) : Sz11 (adZ ps p) := by
  by_cases h : adC ps p = 0
  · rw [adZ_ok h]
    intro x hx
    unfold insP at hx
    rw [List.mem_append, List.mem_append, List.mem_singleton] at hx
    rcases hx with (hx | rfl) | hx
    · exact h1 x (List.mem_of_mem_take hx)
    · exact h2
    · exact h1 x (List.mem_of_mem_drop hx)
  · rw [adZ_no h]; intro x hx; cases hx

/-- A row as it lies, read. -/
theorem pl_of_row {w : World} {lo n c : Nat} {A : Option Addr} {es : List PE} (h : w.ownsRow lo 32 5 (.slice A n c) n (plV es)) (hn : ∀ e ∈ es, NmAt w w.heap.size e.a e.p.ns.length e.p.ns ∧ e.p.ns.length ≤ e.d) : PlAt w w.heap.size A n (plsOf es) := by
  have hl : es.length = n := by have := h.1; rw [plV_len] at this; omega
  refine ⟨by rw [plsOf_len]; exact hl.symm, fun hp => ?_⟩
  obtain ⟨g, cap, hv, _, hlt⟩ := World.ownsRow.form h hp
  have hA : A = some ⟨g, 0, none⟩ := by injection hv
  subst hA
  refine ⟨g, 0, rfl, hlt, fun k p hk => ?_⟩
  obtain ⟨e, he, rfl⟩ := plsOf_get hk
  have hkl := (List.getElem?_eq_some_iff.1 he).1
  have hc := plV_at es k e he
  obtain ⟨i1, i2⟩ := hn e (List.mem_of_getElem? he)
  rw [Nat.zero_add]
  exact ⟨e.a, e.d, (World.ownsRow.cellAt h (k * 5) (by omega)).trans hc.1, (World.ownsRow.cellAt h (k * 5 + 1) (by omega)).trans hc.2.1, (World.ownsRow.cellAt h (k * 5 + 2) (by omega)).trans hc.2.2.1, (World.ownsRow.cellAt h (k * 5 + 3) (by omega)).trans hc.2.2.2.1, (World.ownsRow.cellAt h (k * 5 + 4) (by omega)).trans hc.2.2.2.2, i1, i2⟩
/-- What is kept of the box of the place through a region that draws its order. -/
def BxQ (A0 : World) (b : Nat) (v0 v1 v2 v3 v4 : Value) (W : World) : Prop :=
  W.cell? ⟨b, 0, none⟩ = some v0 ∧ W.cell? ⟨b, 1, none⟩ = some v1 ∧ W.cell? ⟨b, 2, none⟩ = some v2 ∧ W.cell? ⟨b, 3, none⟩ = some v3 ∧ W.cell? ⟨b, 4, none⟩ = some v4 ∧ Below A0.heap.size A0 W ∧ b < A0.heap.size
theorem BxQ.keep {A0 W W' : World} {b : Nat} {v0 v1 v2 v3 v4 : Value} (h : BxQ A0 b v0 v1 v2 v3 v4 W) (hb : Below W.heap.size W W') : BxQ A0 b v0 v1 v2 v3 v4 W' := by
  obtain ⟨h0, h1, h2, h3, h4, h5, h6⟩ := h
  have hl : b < W.heap.size := Nat.lt_of_lt_of_le h6 h5.size
  exact ⟨(hb.cell (p := ⟨b, 0, none⟩) hl).trans h0, (hb.cell (p := ⟨b, 1, none⟩) hl).trans h1, (hb.cell (p := ⟨b, 2, none⟩) hl).trans h2, (hb.cell (p := ⟨b, 3, none⟩) hl).trans h3, (hb.cell (p := ⟨b, 4, none⟩) hl).trans h4, bstep9 h5 h5.size hb, h6⟩
theorem BxQ.get {A0 W : World} {b : Nat} {v0 v1 v2 v3 v4 : Value} (h : BxQ A0 b v0 v1 v2 v3 v4 W) : Below A0.heap.size A0 W := h.2.2.2.2.2.1
theorem BxQ.start {A0 : World} {b : Nat} {v0 v1 v2 v3 v4 : Value} (h : Bx A0 b [v0, v1, v2, v3, v4]) : BxQ A0 b v0 v1 v2 v3 v4 A0.drew := by
  obtain ⟨h0, h1, h2, h3, h4, _⟩ := h.five
  exact ⟨h0, h1, h2, h3, h4, (Below.refl _ _).drew, h.1⟩
end Go.Proofs.YtkbkgbhnfopgnaaDoor
