/-
  What a place is from the year in which it ends.
-/
import Derived.Test.YtglmibmjbignbaaGreatDoorPlFS
import Derived.Test.YtglmibmjbignbaaGreatDoorMz13
namespace Go.Proofs.YtglmibmjbignbaaGreatDoor
section
set_option linter.unusedVariables false
open Go.RowKit

/-- The name's years end in y at the latest. -/
def cutN (y : Int) (x : Nm) : Nm := ⟨x.t, x.l, x.s, x.f, min x.u y⟩
def keepB (x : Nm) : Bool := decide (x.f ≤ x.u)
def cutL (y : Int) (xs : List Nm) : List Nm := (xs.map (cutN y)).filter keepB
theorem cutL_snoc (y : Int) (xs : List Nm) (x : Nm) : cutL y (xs ++ [x]) = cutL y xs ++ (if keepB (cutN y x) = true then [cutN y x] else []) := by
  unfold cutL; rw [List.map_append, List.filter_append]; simp [List.filter_cons]
theorem cutL_yes {y : Int} {xs : List Nm} {k : Nat} {x : Nm} (h : xs[k]? = some x) (hk : keepB (cutN y x) = true) : cutL y (xs.take (k + 1)) = cutL y (xs.take k) ++ [cutN y x] := by
  rw [take_snoc9 h, cutL_snoc, if_pos hk]
theorem cutL_no {y : Int} {xs : List Nm} {k : Nat} {x : Nm} (h : xs[k]? = some x) (hk : keepB (cutN y x) = false) : cutL y (xs.take (k + 1)) = cutL y (xs.take k) := by
  rw [take_snoc9 h, cutL_snoc, hk]; simp
theorem cutL_len (y : Int) (xs : List Nm) : (cutL y xs).length ≤ xs.length := by
  unfold cutL; exact Nat.le_trans (List.length_filter_le _ _) (by simp)
theorem cutL_mem {y : Int} {xs : List Nm} {e : Nm} (h : e ∈ cutL y xs) : ∃ x ∈ xs, e = cutN y x := by
  unfold cutL at h
  rw [List.mem_filter, List.mem_map] at h
  obtain ⟨⟨x, hx, rfl⟩, _⟩ := h
  exact ⟨x, hx, rfl⟩
/-- The place as it is from its end on. -/
def enP (p : Pl) (y : Int) : Pl := ⟨p.c, p.k, p.f, min p.u (y - 1), cutL (y - 1) p.ns⟩
/-- The place with the code, or one that is nothing. -/
def plAt0 (ps : List Pl) (s : ByteArray) : Pl := (ps[atP ps s]?).getD ⟨ByteArray.empty, 0, 0, 0, []⟩
noncomputable def enC (ps : List Pl) (s : ByteArray) (y : Int) : Int := if pcC ps s y = 0 then (if exB (plAt0 ps s) (y - 1) then 0 else 5) else pcC ps s y
noncomputable def enZ (ps : List Pl) (s : ByteArray) (y : Int) : List Pl := if enC ps s y = 0 then ps.set (atP ps s) (enP (plAt0 ps s) y) else []
theorem enZ_ok {ps : List Pl} {s : ByteArray} {y : Int} (h : enC ps s y = 0) : enZ ps s y = ps.set (atP ps s) (enP (plAt0 ps s) y) := by unfold enZ; rw [if_pos h]
theorem enZ_no {ps : List Pl} {s : ByteArray} {y : Int} (h : enC ps s y ≠ 0) : enZ ps s y = [] := by unfold enZ; rw [if_neg h]
/-- All that can come of it. -/
theorem en_cases (ps : List Pl) (s : ByteArray) (y : Int) :
    (pcC ps s y ≠ 0 ∧ enC ps s y = pcC ps s y) ∨
    (∃ p, pcC ps s y = 0 ∧ regB ps = true ∧ yrB y = true ∧ ps[atP ps s]? = some p ∧ plAt0 ps s = p ∧ plB p = true ∧ fndZ ps s = (atP ps s : Int) ∧ exB p (y - 1) = false ∧ enC ps s y = 5) ∨
    (∃ p, pcC ps s y = 0 ∧ regB ps = true ∧ yrB y = true ∧ ps[atP ps s]? = some p ∧ plAt0 ps s = p ∧ plB p = true ∧ fndZ ps s = (atP ps s : Int) ∧ exB p (y - 1) = true ∧ enC ps s y = 0) := by
  rcases pcC_cases ps s y with ⟨h, _⟩ | ⟨h, _⟩ | ⟨h, _⟩ | ⟨h, _⟩ | ⟨h, h1, h2, h3, h4⟩
  · exact .inl ⟨by rw [h]; decide, by unfold enC; rw [if_neg (by rw [h]; decide)]⟩
  · exact .inl ⟨by rw [h]; decide, by unfold enC; rw [if_neg (by rw [h]; decide)]⟩
  · exact .inl ⟨by rw [h]; decide, by unfold enC; rw [if_neg (by rw [h]; decide)]⟩
  · exact .inl ⟨by rw [h]; decide, by unfold enC; rw [if_neg (by rw [h]; decide)]⟩
  · obtain ⟨p, hp, hc⟩ := there_get h4
    have h0 : plAt0 ps s = p := by unfold plAt0; rw [hp]; rfl
    have hb := reg_mem h1 (List.mem_of_getElem? hp)
    have hf : fndZ ps s = (atP ps s : Int) := by unfold fndZ; rw [h4]; rfl
    cases h5 : exB p (y - 1)
    · exact .inr (.inl ⟨p, h, h1, h3, hp, h0, hb, hf, h5, by unfold enC; rw [if_pos h, h0, h5]; rfl⟩)
    · exact .inr (.inr ⟨p, h, h1, h3, hp, h0, hb, hf, h5, by unfold enC; rw [if_pos h, h0, h5]; rfl⟩)
theorem enZ_len (ps : List Pl) (s : ByteArray) (y : Int) : (enZ ps s y).length ≤ 1048576 := by
  rcases en_cases ps s y with ⟨h1, h2⟩ | ⟨p, _, _, _, _, _, _, _, _, h⟩ | ⟨p, _, h1, _, _, _, _, _, _, h⟩
  · rw [enZ_no (by rw [h2]; exact h1)]; simp
  · rw [enZ_no (by rw [h]; decide)]; simp
  · rw [enZ_ok h, List.length_set]; have := (reg_of h1).1; omega
theorem enZ_sz {ps : List Pl} {s : ByteArray} {y : Int} (hz : Sz11 ps) : Sz11 (enZ ps s y) := by
  rcases en_cases ps s y with ⟨h1, h2⟩ | ⟨p, _, _, _, _, _, _, _, _, h⟩ | ⟨p, _, h1, _, hp, h0, _, _, _, h⟩
  · rw [enZ_no (by rw [h2]; exact h1)]; intro x hx; cases hx
  · rw [enZ_no (by rw [h]; decide)]; intro x hx; cases hx
  · rw [enZ_ok h, h0]
    intro x hx
    rcases List.mem_or_eq_of_mem_set hx with hx | rfl
    · exact hz x hx
    · have h2 := hz p (List.mem_of_getElem? hp)
      refine ⟨h2.1, Nat.le_trans (cutL_len _ _) h2.2.1, fun e he => ?_⟩
      obtain ⟨x, hx, rfl⟩ := cutL_mem he
      exact h2.2.2 x hx
theorem enZ_wide (ps : List Pl) (s : ByteArray) (y : Int) : ∀ es, plsOf es = enZ ps s y → wideL es ≤ 1048576 := by
  rcases en_cases ps s y with ⟨h1, h2⟩ | ⟨p, _, _, _, _, _, _, _, _, h⟩ | ⟨p, _, h1, _, hp, h0, hpb, _, _, h⟩
  · rw [enZ_no (by rw [h2]; exact h1)]; exact nil_wide
  · rw [enZ_no (by rw [h]; decide)]; exact nil_wide
  · rw [enZ_ok h, h0]
    intro es he
    have hl : es.length ≤ 10 := by have := (reg_of h1).1; rw [← plsOf_len, he, List.length_set]; exact this
    have hm : ∀ e ∈ es, wideP e ≤ 64 := fun e hm => by
      have h3 : e.p ∈ ps.set (atP ps s) (enP p y) := by rw [← he]; exact List.mem_map_of_mem hm
      have h4 : e.p.ns.length ≤ 12 := by
        rcases List.mem_or_eq_of_mem_set h3 with h3 | h3
        · exact (names_of (pl_parts (reg_mem h1 h3)).2.2.2.2.1).1
        · rw [h3]
          exact Nat.le_trans (cutL_len _ _) (names_of (pl_parts hpb).2.2.2.2.1).1
      unfold wideP; omega
    have key : ∀ (l : List PE), (∀ e ∈ l, wideP e ≤ 64) → wideL l ≤ 64 * l.length := by
      intro l
      induction l with
      | nil => intro _; simp [wideL]
      | cons x l ih =>
        intro hx
        have h1 : wideL (x :: l) = wideP x + wideL l := by simp [wideL]
        have h2 := hx x (by simp)
        have h3 := ih (fun e he => hx e (List.mem_cons_of_mem _ he))
        rw [h1, List.length_cons]; omega
    have := key es hm
    omega
/-- In a place the years that meet are the name's first year and what is left of its last one. -/
theorem en_meet {p : Pl} {y : Int} {x : Nm} (h : plB p = true) (hy : exB p y = true) (hx : x ∈ p.ns) : max x.f p.f = x.f ∧ spB x.f (min x.u y) = keepB (cutN y x) := by
  obtain ⟨_, _, _, h1, h2, h3⟩ := pl_parts h
  have h4 := List.all_eq_true.1 h3 x hx
  unfold wiB at h4
  simp at h4
  have h5 := (nm_parts (names_mem h2 hx)).2.2.2.2
  unfold spB at h5
  simp at h5
  refine ⟨by omega, ?_⟩
  unfold spB keepB cutN
  rw [Bool.eq_iff_iff]
  simp
  omega
theorem en_min {p : Pl} {y : Int} (h : exB p y = true) : min p.u y = y := by
  unfold exB inB at h
  simp at h
  omega
end
section
set_option linter.unusedVariables false
open Go.RowKit

/-- The text of the best name, if there is one. -/
def bestT (xs : List Nm) (y : Int) (ls : List ByteArray) : Option ByteArray := (bestF xs y ls).bind fun k => (xs[k]?).map Nm.t
theorem bestF_at {xs : List Nm} {y : Int} : ∀ {ls : List ByteArray} {k : Nat}, bestF xs y ls = some k → ∃ x, xs[k]? = some x
  | [], k, h => by cases h
  | l :: ls, k, h => by
    cases h1 : lsF xs l y xs.length with
    | some b =>
      simp only [bestF, h1] at h
      obtain rfl := Option.some.inj h
      obtain ⟨_, x, hx, _⟩ := ls_lt xs l y xs.length b h1
      exact ⟨x, hx⟩
    | none =>
      simp only [bestF, h1] at h
      exact bestF_at h
theorem bestT_none {xs : List Nm} {y : Int} {ls : List ByteArray} (h : bestF xs y ls = none) : bestT xs y ls = none := by unfold bestT; rw [h]; rfl
theorem bestT_some {xs : List Nm} {y : Int} {ls : List ByteArray} {k : Nat} {x : Nm} (h : bestF xs y ls = some k) (hx : xs[k]? = some x) : bestT xs y ls = some x.t := by unfold bestT; rw [h]; show (xs[k]?).map Nm.t = _; rw [hx]; rfl

noncomputable def naC (ps : List Pl) (s : ByteArray) (ls : List ByteArray) (y : Int) : Int := if ls.all langB then pcC ps s y else 1
noncomputable def naT (ps : List Pl) (s : ByteArray) (ls : List ByteArray) (y : Int) : ByteArray := if naC ps s ls y = 0 then (bestT (plAt0 ps s).ns y ls).getD s else ⟨#[]⟩
theorem na_cases (ps : List Pl) (s : ByteArray) (ls : List ByteArray) (y : Int) :
    (ls.all langB = false ∧ naC ps s ls y = 1 ∧ naT ps s ls y = ⟨#[]⟩) ∨
    (ls.all langB = true ∧ pcC ps s y ≠ 0 ∧ naC ps s ls y = pcC ps s y ∧ naT ps s ls y = ⟨#[]⟩) ∨
    (∃ p, ls.all langB = true ∧ pcC ps s y = 0 ∧ regB ps = true ∧ ps[atP ps s]? = some p ∧ fndZ ps s = (atP ps s : Int) ∧ qC p.ns ls y = 0 ∧ naC ps s ls y = 0 ∧ naT ps s ls y = (bestT p.ns y ls).getD s) := by
  cases ha : ls.all langB
  · have h1 : naC ps s ls y = 1 := by unfold naC; rw [ha]; rfl
    exact .inl ⟨rfl, h1, by unfold naT; rw [if_neg (by rw [h1]; decide)]⟩
  · have h1 : naC ps s ls y = pcC ps s y := by unfold naC; rw [ha]; rfl
    have key : pcC ps s y ≠ 0 → naT ps s ls y = ⟨#[]⟩ := fun h => by unfold naT; rw [if_neg (by rw [h1]; exact h)]
    rcases pcC_cases ps s y with ⟨h, _⟩ | ⟨h, _⟩ | ⟨h, _⟩ | ⟨h, _⟩ | ⟨h, e1, e2, e3, e4⟩
    · exact .inr (.inl ⟨rfl, by rw [h]; decide, h1, key (by rw [h]; decide)⟩)
    · exact .inr (.inl ⟨rfl, by rw [h]; decide, h1, key (by rw [h]; decide)⟩)
    · exact .inr (.inl ⟨rfl, by rw [h]; decide, h1, key (by rw [h]; decide)⟩)
    · exact .inr (.inl ⟨rfl, by rw [h]; decide, h1, key (by rw [h]; decide)⟩)
    · obtain ⟨p, hp, hc⟩ := there_get e4
      have h0 : plAt0 ps s = p := by unfold plAt0; rw [hp]; rfl
      have hb := reg_mem e1 (List.mem_of_getElem? hp)
      have hf : fndZ ps s = (atP ps s : Int) := by unfold fndZ; rw [e4]; rfl
      have hq : qC p.ns ls y = 0 := qC_ok (by rw [(pl_parts hb).2.2.2.2.1, ha]; rfl) e3
      exact .inr (.inr ⟨p, rfl, h, e1, hp, hf, hq, h1.trans h, by unfold naT; rw [if_pos (h1.trans h), h0]⟩)
theorem naT_len (ps : List Pl) (s : ByteArray) (ls : List ByteArray) (y : Int) (hz : Sz11 ps) (hs : s.size ≤ 1048576) : (naT ps s ls y).size ≤ 1048576 := by
  rcases na_cases ps s ls y with ⟨_, _, h⟩ | ⟨_, _, _, h⟩ | ⟨p, _, _, _, hp, _, _, _, h⟩
  · rw [h]; decide
  · rw [h]; decide
  · rw [h]
    cases ho : bestF p.ns y ls with
    | none => rw [bestT_none ho]; exact hs
    | some k =>
      obtain ⟨x, hx⟩ := bestF_at ho
      rw [bestT_some ho hx]
      exact ((hz p (List.mem_of_getElem? hp)).2.2 x (List.mem_of_getElem? hx)).1
end
end Go.Proofs.YtglmibmjbignbaaGreatDoor
