/-
  What a place is from the year in which it ends.
-/
import Derived.Test.YtglmibmjbignbaaGreatDoorPlFS
import Derived.Test.YtglmibmjbignbaaGreatDoorMy18
import Derived.Test.YtglmibmjbignbaaGreatDoorNmMath
import Derived.Test.YtglmibmjbignbaaGreatDoorMy6
import Derived.Deep.Onto
import Derived.Test.YtglmibmjbignbaaGreatDoorMy11
import Derived.Test.YtglmibmjbignbaaGreatDoorMy5
import Derived.Test.YtglmibmjbignbaaGreatDoorMy21
namespace Go.Proofs.YtglmibmjbignbaaGreatDoor
section
set_option linter.unusedVariables false
open Go.RowKit

/-- The name's years end in y at the latest. -/
def cutN (y : Int) (x : Nm) : Nm := ⟨x.t, x.l, x.s, x.f, min x.u y⟩
def keepB (x : Nm) : Bool := decide (x.f ≤ x.u)
def cutL (y : Int) (xs : List Nm) : List Nm := (xs.map (cutN y)).filter keepB
theorem cutL_snoc (y : Int) (xs : List Nm) (x : Nm) : cutL y (xs ++ [x]) = cutL y xs ++ (if keepB (cutN y x) = true then [cutN y x] else []) := by
  unfold cutL; rw [List.map_append, List.filter_append]; simp [List.filter_cons]
theorem cutL_yes {y : Int} {xs : List Nm} {k : Nat} {x : Nm} (h : xs[k]? = some x) (hk : keepB (cutN y x) = true) : cutL y (xs.take (k + 1)) = cutL y (xs.take k) ++ [cutN y x] := by
  rw [take_snoc9 h, cutL_snoc, if_pos hk]
theorem cutL_no {y : Int} {xs : List Nm} {k : Nat} {x : Nm} (h : xs[k]? = some x) (hk : keepB (cutN y x) = false) : cutL y (xs.take (k + 1)) = cutL y (xs.take k) := by
  rw [take_snoc9 h, cutL_snoc, hk]; simp
theorem cutL_len (y : Int) (xs : List Nm) : (cutL y xs).length ≤ xs.length := by
  unfold cutL; exact Nat.le_trans (List.length_filter_le _ _) (by simp)
theorem cutL_mem {y : Int} {xs : List Nm} {e : Nm} (h : e ∈ cutL y xs) : ∃ x ∈ xs, e = cutN y x := by
  unfold cutL at h
  rw [List.mem_filter, List.mem_map] at h
  obtain ⟨⟨x, hx, rfl⟩, _⟩ := h
  exact ⟨x, hx, rfl⟩
/-- The place as9 it is from its end on. -/
def enP (p : Pl) (y : Int) : Pl := ⟨p.c, p.k, p.f, min p.u (y - 1), cutL (y - 1) p.ns⟩
/-- The place with the code, or one that is nothing. -/
def plAt0 (ps : List Pl) (s : ByteArray) : Pl := (ps[atP ps s]?).getD ⟨ByteArray.empty, 0, 0, 0, []⟩
noncomputable def enC (ps : List Pl) (s : ByteArray) (y : Int) : Int := if pcC ps s y = 0 then (if exB (plAt0 ps s) (y - 1) then 0 else 5) else pcC ps s y
noncomputable def enZ (ps : List Pl) (s : ByteArray) (y : Int) : List Pl := if enC ps s y = 0 then ps.set (atP ps s) (enP (plAt0 ps s) y) else []
theorem enZ_ok {ps : List Pl} {s : ByteArray} {y : Int} (h : enC ps s y = 0) : enZ ps s y = ps.set (atP ps s) (enP (plAt0 ps s) y) := by unfold enZ; rw [if_pos h]
theorem enZ_no {ps : List Pl} {s : ByteArray} {y : Int} (h : enC ps s y ≠ 0) : enZ ps s y = [] := by unfold enZ; rw [if_neg h]
/-- All that can come of it. -/
theorem en_cases (ps : List Pl) (s : ByteArray) (y : Int) :
    (pcC ps s y ≠ 0 ∧ enC ps s y = pcC ps s y) ∨
    (∃ p, pcC ps s y = 0 ∧ regB ps = true ∧ yrB y = true ∧ ps[atP ps s]? = some p ∧ plAt0 ps s = p ∧ plB p = true ∧ fndZ ps s = (atP ps s : Int) ∧ exB p (y - 1) = false ∧ enC ps s y = 5) ∨
    (∃ p, pcC ps s y = 0 ∧ regB ps = true ∧ yrB y = true ∧ ps[atP ps s]? = some p ∧ plAt0 ps s = p ∧ plB p = true ∧ fndZ ps s = (atP ps s : Int) ∧ exB p (y - 1) = true ∧ enC ps s y = 0) := by
  rcases pcC_cases ps s y with ⟨h, _⟩ | ⟨h, _⟩ | ⟨h, _⟩ | ⟨h, _⟩ | ⟨h, h1, h2, h3, h4⟩
  · exact .inl ⟨by rw [h]; decide, by unfold enC; rw [if_neg (by rw [h]; decide)]⟩
  · exact .inl ⟨by rw [h]; decide, by unfold enC; rw [if_neg (by rw [h]; decide)]⟩
  · exact .inl ⟨by rw [h]; decide, by unfold enC; rw [if_neg (by rw [h]; decide)]⟩
  · exact .inl ⟨by rw [h]; decide, by unfold enC; rw [if_neg (by rw [h]; decide)]⟩
  · obtain ⟨p, hp, hc⟩ := there_get h4
    have h0 : plAt0 ps s = p := by unfold plAt0; rw [hp]; rfl
    have hb := reg_mem h1 (List.mem_of_getElem? hp)
    have hf : fndZ ps s = (atP ps s : Int) := by unfold fndZ; rw [h4]; rfl
    cases h5 : exB p (y - 1)
    · exact .inr (.inl ⟨p, h, h1, h3, hp, h0, hb, hf, h5, by unfold enC; rw [if_pos h, h0, h5]; rfl⟩)
    · exact .inr (.inr ⟨p, h, h1, h3, hp, h0, hb, hf, h5, by unfold enC; rw [if_pos h, h0, h5]; rfl⟩)
theorem enZ_len (ps : List Pl) (s : ByteArray) (y : Int) : (enZ ps s y).length ≤ 1048576 := by
  rcases en_cases ps s y with ⟨h1, h2⟩ | ⟨p, _, _, _, _, _, _, _, _, h⟩ | ⟨p, _, h1, _, _, _, _, _, _, h⟩
  · rw [enZ_no (by rw [h2]; exact h1)]; simp
  · rw [enZ_no (by rw [h]; decide)]; simp
  · rw [enZ_ok h, List.length_set]; have := (reg_of h1).1; omega
theorem enZ_sz {ps : List Pl} {s : ByteArray} {y : Int} (hz : Sz11 ps) : Sz11 (enZ ps s y) := by
  rcases en_cases ps s y with ⟨h1, h2⟩ | ⟨p, _, _, _, _, _, _, _, _, h⟩ | ⟨p, _, h1, _, hp, h0, _, _, _, h⟩
  · rw [enZ_no (by rw [h2]; exact h1)]; intro x hx; cases hx
  · rw [enZ_no (by rw [h]; decide)]; intro x hx; cases hx
  · rw [enZ_ok h, h0]
    intro x hx
    rcases List.mem_or_eq_of_mem_set hx with hx | rfl
    · exact hz x hx
    · have h2 := hz p (List.mem_of_getElem? hp)
      refine ⟨h2.1, Nat.le_trans (cutL_len _ _) h2.2.1, fun e he => ?_⟩
      obtain ⟨x, hx, rfl⟩ := cutL_mem he
      exact h2.2.2 x hx
theorem enZ_wide (ps : List Pl) (s : ByteArray) (y : Int) : ∀ es, plsOf es = enZ ps s y → wideL es ≤ 1048576 := by
  rcases en_cases ps s y with ⟨h1, h2⟩ | ⟨p, _, _, _, _, _, _, _, _, h⟩ | ⟨p, _, h1, _, hp, h0, hpb, _, _, h⟩
  · rw [enZ_no (by rw [h2]; exact h1)]; exact nil_wide
  · rw [enZ_no (by rw [h]; decide)]; exact nil_wide
  · rw [enZ_ok h, h0]
    intro es he
    have hl : es.length ≤ 10 := by have := (reg_of h1).1; rw [← plsOf_len, he, List.length_set]; exact this
    have hm : ∀ e ∈ es, wideP e ≤ 64 := fun e hm => by
      have h3 : e.p ∈ ps.set (atP ps s) (enP p y) := by rw [← he]; exact List.mem_map_of_mem hm
      have h4 : e.p.ns.length ≤ 12 := by
        rcases List.mem_or_eq_of_mem_set h3 with h3 | h3
        · exact (names_of (pl_parts (reg_mem h1 h3)).2.2.2.2.1).1
        · rw [h3]
          exact Nat.le_trans (cutL_len _ _) (names_of (pl_parts hpb).2.2.2.2.1).1
      unfold wideP; omega
    have key : ∀ (l : List PE), (∀ e ∈ l, wideP e ≤ 64) → wideL l ≤ 64 * l.length := by
      intro l
      induction l with
      | nil => intro _; simp [wideL]
      | cons x l ih =>
        intro hx
        have h1 : wideL (x :: l) = wideP x + wideL l := by simp [wideL]
        have h2 := hx x (by simp)
        have h3 := ih (fun e he => hx e (List.mem_cons_of_mem _ he))
        rw [h1, List.length_cons]; omega
    have := key es hm
    omega
/-- In a place the years that meet are the name's first year and what is left of its last one. -/
theorem en_meet {p : Pl} {y : Int} {x : Nm} (h : plB p = true) (hy : exB p y = true) (hx : x ∈ p.ns) : max x.f p.f = x.f ∧ spB x.f (min x.u y) = keepB (cutN y x) := by
  obtain ⟨_, _, _, h1, h2, h3⟩ := pl_parts h
  have h4 := List.all_eq_true.1 h3 x hx
  unfold wiB at h4
  simp at h4
  have h5 := (nm_parts (names_mem h2 hx)).2.2.2.2
  unfold spB at h5
  simp at h5
  refine ⟨by omega, ?_⟩
  unfold spB keepB cutN
  rw [Bool.eq_iff_iff]
  simp
  omega
theorem en_min {p : Pl} {y : Int} (h : exB p y = true) : min p.u y = y := by
  unfold exB inB at h
  simp at h
  omega
end
section
set_option linter.unusedVariables false
open Go.RowKit

/-- The text of the best name, if there is one. -/
def bestT (xs : List Nm) (y : Int) (ls : List ByteArray) : Option ByteArray := (bestF xs y ls).bind fun k => (xs[k]?).map Nm.t
theorem bestF_at {xs : List Nm} {y : Int} : ∀ {ls : List ByteArray} {k : Nat}, bestF xs y ls = some k → ∃ x, xs[k]? = some x
  | [], k, h => by cases h
  | l :: ls, k, h => by
    cases h1 : lsF xs l y xs.length with
    | some b =>
      simp only [bestF, h1] at h
      obtain rfl := Option.some.inj h
      obtain ⟨_, x, hx, _⟩ := ls_lt xs l y xs.length b h1
      exact ⟨x, hx⟩
    | none =>
      simp only [bestF, h1] at h
      exact bestF_at h
theorem bestT_none {xs : List Nm} {y : Int} {ls : List ByteArray} (h : bestF xs y ls = none) : bestT xs y ls = none := by unfold bestT; rw [h]; rfl
theorem bestT_some {xs : List Nm} {y : Int} {ls : List ByteArray} {k : Nat} {x : Nm} (h : bestF xs y ls = some k) (hx : xs[k]? = some x) : bestT xs y ls = some x.t := by unfold bestT; rw [h]; show (xs[k]?).map Nm.t = _; rw [hx]; rfl

noncomputable def naC (ps : List Pl) (s : ByteArray) (ls : List ByteArray) (y : Int) : Int := if ls.all langB then pcC ps s y else 1
noncomputable def naT (ps : List Pl) (s : ByteArray) (ls : List ByteArray) (y : Int) : ByteArray := if naC ps s ls y = 0 then (bestT (plAt0 ps s).ns y ls).getD s else ⟨#[]⟩
theorem na_cases (ps : List Pl) (s : ByteArray) (ls : List ByteArray) (y : Int) :
    (ls.all langB = false ∧ naC ps s ls y = 1 ∧ naT ps s ls y = ⟨#[]⟩) ∨
    (ls.all langB = true ∧ pcC ps s y ≠ 0 ∧ naC ps s ls y = pcC ps s y ∧ naT ps s ls y = ⟨#[]⟩) ∨
    (∃ p, ls.all langB = true ∧ pcC ps s y = 0 ∧ regB ps = true ∧ ps[atP ps s]? = some p ∧ fndZ ps s = (atP ps s : Int) ∧ qC p.ns ls y = 0 ∧ naC ps s ls y = 0 ∧ naT ps s ls y = (bestT p.ns y ls).getD s) := by
  cases ha : ls.all langB
  · have h1 : naC ps s ls y = 1 := by unfold naC; rw [ha]; rfl
    exact .inl ⟨rfl, h1, by unfold naT; rw [if_neg (by rw [h1]; decide)]⟩
  · have h1 : naC ps s ls y = pcC ps s y := by unfold naC; rw [ha]; rfl
    have key : pcC ps s y ≠ 0 → naT ps s ls y = ⟨#[]⟩ := fun h => by unfold naT; rw [if_neg (by rw [h1]; exact h)]
    rcases pcC_cases ps s y with ⟨h, _⟩ | ⟨h, _⟩ | ⟨h, _⟩ | ⟨h, _⟩ | ⟨h, e1, e2, e3, e4⟩
    · exact .inr (.inl ⟨rfl, by rw [h]; decide, h1, key (by rw [h]; decide)⟩)
    · exact .inr (.inl ⟨rfl, by rw [h]; decide, h1, key (by rw [h]; decide)⟩)
    · exact .inr (.inl ⟨rfl, by rw [h]; decide, h1, key (by rw [h]; decide)⟩)
    · exact .inr (.inl ⟨rfl, by rw [h]; decide, h1, key (by rw [h]; decide)⟩)
    · obtain ⟨p, hp, hc⟩ := there_get e4
      have h0 : plAt0 ps s = p := by unfold plAt0; rw [hp]; rfl
      have hb := reg_mem e1 (List.mem_of_getElem? hp)
      have hf : fndZ ps s = (atP ps s : Int) := by unfold fndZ; rw [e4]; rfl
      have hq : qC p.ns ls y = 0 := qC_ok (by rw [(pl_parts hb).2.2.2.2.1, ha]; rfl) e3
      exact .inr (.inr ⟨p, rfl, h, e1, hp, hf, hq, h1.trans h, by unfold naT; rw [if_pos (h1.trans h), h0]⟩)
theorem naT_len (ps : List Pl) (s : ByteArray) (ls : List ByteArray) (y : Int) (hz : Sz11 ps) (hs : s.size ≤ 1048576) : (naT ps s ls y).size ≤ 1048576 := by
  rcases na_cases ps s ls y with ⟨_, _, h⟩ | ⟨_, _, _, h⟩ | ⟨p, _, _, _, hp, _, _, _, h⟩
  · rw [h]; decide
  · rw [h]; decide
  · rw [h]
    cases ho : bestF p.ns y ls with
    | none => rw [bestT_none ho]; exact hs
    | some k =>
      obtain ⟨x, hx⟩ := bestF_at ho
      rw [bestT_some ho hx]
      exact ((hz p (List.mem_of_getElem? hp)).2.2 x (List.mem_of_getElem? hx)).1
end
section
set_option linter.unusedVariables false
open Go.RowKit

theorem info_strW : (Tryz.prog.info? 9).map (fun i => (i.zero, i.size, i.bytes)) = some (some (.string ByteArray.empty), 1, 16) := by kernel_rfl
def cdZ (P : Pl → Bool) (ps : List Pl) : List ByteArray := (ps.filter P).map (·.c)
theorem cdZ_no {P : Pl → Bool} {ps : List Pl} {k : Nat} {p : Pl} (h : ps[k]? = some p) (hf : P p = false) : cdZ P (ps.take (k + 1)) = cdZ P (ps.take k) := by
  rw [take_snocP h]; unfold cdZ; rw [List.filter_append]; simp [hf]
theorem cdZ_yes {P : Pl → Bool} {ps : List Pl} {k : Nat} {p : Pl} (h : ps[k]? = some p) (hf : P p = true) : cdZ P (ps.take (k + 1)) = cdZ P (ps.take k) ++ [p.c] := by
  rw [take_snocP h]; unfold cdZ; rw [List.filter_append]; simp [hf]
theorem cdZ_len (P : Pl → Bool) (ps : List Pl) : (cdZ P ps).length ≤ ps.length := by unfold cdZ; rw [List.length_map]; exact List.length_filter_le _ _
theorem strV_snocW (xs : List ByteArray) (x : ByteArray) : strV xs ++ [.string x] = strV (xs ++ [x]) := by simp [strV]
theorem keptW {w w' : World} {base n : Nat} {A : Option Addr} {m d : Nat} {t : TypeId} {xs : List Value} {sz : Nat} (h : w.ownsRow base t sz (.slice A m d) n xs) (hb : Below w.heap.size w w') : w'.ownsRow base t sz (.slice A m d) n xs :=
  h.kept ⟨hb.os, hb.tape, hb.output, hb.size, fun j hj _ => hb.block j hj⟩ (row := none) (by
    rcases hh : (Value.slice A m d).ownBlock with _ | q
    · exact .inl rfl
    · exact .inr (fun e => by cases e))
def RowT11 (zs : List ByteArray) (w : World) (e : Ending) (w' : World) : Prop :=
  ∃ A n c, e = .returned (.slice A n c) ∧ w'.ownsRow w.heap.size 9 1 (.slice A n c) n (strV zs) ∧ Below w.heap.size w w'
def OutT11 (zs : List ByteArray) (code : Int) (w : World) (e : Ending) (w' : World) : Prop :=
  ∃ A n c, e = .returned (.tuple #[.slice A n c, .int .i64 code]) ∧ w'.ownsRow w.heap.size 9 1 (.slice A n c) n (strV zs) ∧ Below w.heap.size w w'
/-- The codes of the places that exist in a year, where the register and the year are right. -/
noncomputable def piZ (ps : List Pl) (y : Int) : List ByteArray := if pyC ps y = 0 then cdZ (fun p => exB p y) ps else []
theorem piZ_ok {ps : List Pl} {y : Int} (h : pyC ps y = 0) : piZ ps y = cdZ (fun p => exB p y) ps := by unfold piZ; rw [if_pos h]
theorem piZ_no {ps : List Pl} {y : Int} (h : pyC ps y ≠ 0) : piZ ps y = [] := by unfold piZ; rw [if_neg h]
theorem piZ_len (ps : List Pl) (y : Int) : (piZ ps y).length ≤ 1048576 := by
  by_cases h : pyC ps y = 0
  · rw [piZ_ok h]
    have h1 := cdZ_len (fun p => exB p y) ps
    have h2 := (reg_of (pyC_zero h).1).1
    omega
  · rw [piZ_no h]; simp
end
section
set_option linter.unusedVariables false
open Go.RowKit

def txU (xs : List Nm) (y : Int) : List ByteArray := (xs.filter fun x => usB x y).map Nm.t
theorem txU_no {xs : List Nm} {y : Int} {k : Nat} {x : Nm} (h : xs[k]? = some x) (hf : usB x y = false) : txU (xs.take (k + 1)) y = txU (xs.take k) y := by
  rw [take_snoc9 h]; unfold txU; rw [List.filter_append]; simp [hf]
theorem txU_yes {xs : List Nm} {y : Int} {k : Nat} {x : Nm} (h : xs[k]? = some x) (hf : usB x y = true) : txU (xs.take (k + 1)) y = txU (xs.take k) y ++ [x.t] := by
  rw [take_snoc9 h]; unfold txU; rw [List.filter_append]; simp [hf]
theorem txU_len (xs : List Nm) (y : Int) : (txU xs y).length ≤ xs.length := by unfold txU; rw [List.length_map]; exact List.length_filter_le _ _
theorem txU_mem {xs : List Nm} {y : Int} {t : ByteArray} : t ∈ txU xs y ↔ ∃ x ∈ xs, usB x y = true ∧ x.t = t := by
  unfold txU; rw [List.mem_map]
  constructor
  · rintro ⟨x, hx, rfl⟩
    rw [List.mem_filter] at hx
    exact ⟨x, hx.1, hx.2, rfl⟩
  · rintro ⟨x, h1, h2, rfl⟩
    exact ⟨x, by rw [List.mem_filter]; exact ⟨h1, h2⟩, rfl⟩
/-- There is a name with the text that is used in the year. -/
def hasT11 (xs : List Nm) (y : Int) (t : ByteArray) : Bool := decide (t ∈ txU xs y)
theorem set_has (xs : List Nm) (y : Int) (t : ByteArray) : decide (t ∈ setT (txU xs y)) = hasT11 xs y t := by
  unfold hasT11; rw [decide_eq_decide]; exact (setT_is _).2 t
theorem has_yes {xs : List Nm} {y : Int} {i : Nat} {x : Nm} (h : xs[i]? = some x) (hu : usB x y = true) : hasT11 xs y x.t = true := by
  unfold hasT11; exact decide_eq_true (txU_mem.2 ⟨x, List.mem_of_getElem? h, hu, rfl⟩)
theorem usP_at {xs : List Nm} {y : Int} : ∀ {k i : Nat} {x : Nm}, i < k → xs[i]? = some x → usB x y = true → (i : Int) ∈ usP xs y k
  | 0, i, x, h, _, _ => absurd h (by omega)
  | k + 1, i, x, h, hx, hu => by
    by_cases e : i = k
    · subst e; rw [usP_yes hx hu]; simp
    · have h1 := usP_at (k := k) (by omega) hx hu
      cases hk : xs[k]? with
      | none =>
        show (i : Int) ∈ usP xs y k ++ _
        rw [List.mem_append]; exact .inl h1
      | some z =>
        show (i : Int) ∈ usP xs y k ++ _
        rw [List.mem_append]; exact .inl h1
theorem has_no {xs : List Nm} {y : Int} {t : ByteArray} {u : List Int} (he : u = usP xs y xs.length) (h : ∀ (j : Nat) (v : Int) (i : Nat) (x : Nm), u[j]? = some v → v = (i : Int) → xs[i]? = some x → x.t ≠ t) : hasT11 xs y t = false := by
  unfold hasT11
  refine decide_eq_false fun hm => ?_
  obtain ⟨x, hx, hu, ht⟩ := txU_mem.1 hm
  obtain ⟨i, hi⟩ := List.mem_iff_getElem?.1 hx
  have h1 := usP_at (k := xs.length) (List.getElem?_eq_some_iff.1 hi).1 hi hu
  rw [← he] at h1
  obtain ⟨j, hj⟩ := List.mem_iff_getElem?.1 h1
  exact h j i i x hj rfl hi ht
noncomputable def pnC (ps : List Pl) (t : ByteArray) (y : Int) : Int := if phraseB t then pyC ps y else 1
noncomputable def pnZ (ps : List Pl) (t : ByteArray) (y : Int) : List ByteArray := if pnC ps t y = 0 then cdZ (fun p => hasT11 p.ns y t) ps else []
theorem pn_cases (ps : List Pl) (t : ByteArray) (y : Int) :
    (phraseB t = false ∧ pnC ps t y = 1 ∧ pnZ ps t y = []) ∨ (phraseB t = true ∧ pyC ps y ≠ 0 ∧ pnC ps t y = pyC ps y ∧ pnZ ps t y = []) ∨
    (phraseB t = true ∧ pyC ps y = 0 ∧ pnC ps t y = 0 ∧ pnZ ps t y = cdZ (fun p => hasT11 p.ns y t) ps) := by
  cases hp : phraseB t
  · have h1 : pnC ps t y = 1 := by unfold pnC; rw [hp]; rfl
    exact .inl ⟨rfl, h1, by unfold pnZ; rw [if_neg (by rw [h1]; decide)]⟩
  · have h1 : pnC ps t y = pyC ps y := by unfold pnC; rw [hp]; rfl
    by_cases h0 : pyC ps y = 0
    · exact .inr (.inr ⟨rfl, h0, h1.trans h0, by unfold pnZ; rw [if_pos (h1.trans h0)]⟩)
    · exact .inr (.inl ⟨rfl, h0, h1, by unfold pnZ; rw [if_neg (by rw [h1]; exact h0)]⟩)
theorem pnZ_len (ps : List Pl) (t : ByteArray) (y : Int) : (pnZ ps t y).length ≤ 1048576 := by
  rcases pn_cases ps t y with ⟨_, _, h⟩ | ⟨_, _, _, h⟩ | ⟨_, h0, _, h⟩
  · rw [h]; simp
  · rw [h]; simp
  · rw [h]
    have h1 := cdZ_len (fun p => hasT11 p.ns y t) ps
    have h2 := (reg_of (pyC_zero h0).1).1
    omega
end
section
set_option linter.unusedVariables false
open Go.RowKit

theorem num_one10 (w : World) (a : Int) : NumAt (w.alloc (.cells #[.int .i64 a] 2)) (w.heap.size + 1) (some ⟨w.heap.size, 0, none⟩) 1 [a] := by
  refine ⟨rfl, fun _ => ⟨_, 0, rfl, by omega, fun j x hx => ?_⟩⟩
  rw [Nat.zero_add, World.cell?_alloc_at _ _ _ _ rfl]
  rcases j with _ | j
  · simp at hx; subst hx; rfl
  · simp at hx
theorem num_two10 (w : World) (a b : Int) : NumAt (w.alloc (.cells #[.int .i64 a, .int .i64 b] 2)) (w.heap.size + 1) (some ⟨w.heap.size, 0, none⟩) 2 [a, b] := by
  refine ⟨rfl, fun _ => ⟨_, 0, rfl, by omega, fun j x hx => ?_⟩⟩
  rw [Nat.zero_add, World.cell?_alloc_at _ _ _ _ rfl]
  rcases j with _ | _ | j
  · simp at hx; subst hx; rfl
  · simp at hx; subst hx; rfl
  · simp at hx
/-- A row of numbers of one's own and a code. -/
def Out10 (zs : List Int) (code : Int) (w : World) (e : Ending) (w' : World) : Prop :=
  ∃ A n c, e = .returned (.tuple #[.slice A n c, .int .i64 code]) ∧ w'.ownsRow w.heap.size 2 1 (.slice A n c) n (intV zs) ∧ Below w.heap.size w w'
theorem Out10.nil {w w' : World} {code : Int} {e : Ending} (he : e = .returned (.tuple #[.slice none 0 0, .int .i64 code])) (hb : Below w.heap.size w w') : Out10 [] code w e w' := ⟨none, 0, 0, he, World.ownsRow_nil _ _ _ _, hb⟩
theorem below_allocs {w : World} (o : Obj) : Below w.heap.size w (w.alloc o) := (Below.refl _ _).alloc (Nat.le_refl _) _
theorem below_thenA {a b c : World} (h : Below a.heap.size a b) (k : Below b.heap.size b c) : Below a.heap.size a c := h.trans (k.mono h.size)
/-- What a check of one class or of two says. -/
theorem cChk1 (A : Option Addr) (n c : Nat) (xs : List Int) (a : Int) (w : World) (hb : n ≤ 1048576) (h : NumAt w w.heap.size A n xs) :
    Calls Tryz.prog 95 #[.slice A n c, .slice (some ⟨w.heap.size, 0, none⟩) 1 1] (w.alloc (.cells #[.int .i64 a] 2)) fun e w' => e = .returned (.int .i64 (clsC xs [a])) ∧ Below w.heap.size w w' :=
  (cChk10 A _ n c 1 1 w.heap.size (w.heap.size + 1) xs [a] _ (by unfold maxLen; omega) (by unfold maxLen; omega) (h.below (below_allocs _) (Nat.le_refl _)) (num_one10 w a) (by simp) (by simp)).mono fun e w' hh => ⟨hh.1, below_thenA (below_allocs _) hh.2⟩
theorem cChk2 (A : Option Addr) (n c : Nat) (xs : List Int) (a b : Int) (w : World) (hb : n ≤ 1048576) (h : NumAt w w.heap.size A n xs) :
    Calls Tryz.prog 95 #[.slice A n c, .slice (some ⟨w.heap.size, 0, none⟩) 2 2] (w.alloc (.cells #[.int .i64 a, .int .i64 b] 2)) fun e w' => e = .returned (.int .i64 (clsC xs [a, b])) ∧ Below w.heap.size w w' :=
  (cChk10 A _ n c 2 2 w.heap.size (w.heap.size + 1) xs [a, b] _ (by unfold maxLen; omega) (by unfold maxLen; omega) (h.below (below_allocs _) (Nat.le_refl _)) (num_two10 w a b) (by simp) (by simp)).mono fun e w' hh => ⟨hh.1, below_thenA (below_allocs _) hh.2⟩
theorem cChk0 (A : Option Addr) (n c : Nat) (xs : List Int) (w : World) (hb : n ≤ 1048576) (h : NumAt w w.heap.size A n xs) :
    Calls Tryz.prog 95 #[.slice A n c, .slice none 0 0] w fun e w' => e = .returned (.int .i64 (clsC xs [])) ∧ Below w.heap.size w w' :=
  cChk10 A _ n c 0 0 w.heap.size w.heap.size xs [] _ (by unfold maxLen; omega) (by unfold maxLen; omega) h ⟨rfl, fun hp => by omega⟩ (Nat.le_refl _) (Nat.le_refl _)
def kdZ (xs : List Int) (a : Int) : List Int := if clsC xs [a] = 0 then upF xs a else []
theorem kdZ_yes {xs : List Int} {a : Int} (h : clsC xs [a] = 0) : kdZ xs a = upF xs a := if_pos h
theorem kdZ_no {xs : List Int} {a : Int} (h : clsC xs [a] ≠ 0) : kdZ xs a = [] := if_neg h
theorem kdZ_len (xs : List Int) (a : Int) : (kdZ xs a).length ≤ 20 := by
  by_cases h : clsC xs [a] = 0
  · rw [kdZ_yes h]
    obtain ⟨hT, k, rfl, hk⟩ := clsC_one h
    have := (upF_len hT k hk).2
    have := hT.le
    omega
  · rw [kdZ_no h]; exact Nat.zero_le _
def isZ (xs : List Int) (a b : Int) : Bool := if clsC xs [a, b] = 0 then decide (b ∈ upF xs a) else false
theorem isZ_yes {xs : List Int} {a b : Int} (h : clsC xs [a, b] = 0) : isZ xs a b = decide (b ∈ upF xs a) := if_pos h
theorem isZ_no {xs : List Int} {a b : Int} (h : clsC xs [a, b] ≠ 0) : isZ xs a b = false := if_neg h
def comV (xs : List Int) (a b : Int) : Int := if clsC xs [a, b] = 0 then comZ xs a b else 0
theorem comV_yes {xs : List Int} {a b : Int} (h : clsC xs [a, b] = 0) : comV xs a b = comZ xs a b := if_pos h
theorem comV_no {xs : List Int} {a b : Int} (h : clsC xs [a, b] ≠ 0) : comV xs a b = 0 := if_neg h
def disV (xs : List Int) (a b : Int) : Int := if clsC xs [a, b] = 0 then disZ xs a b else 0
theorem disV_yes {xs : List Int} {a b : Int} (h : clsC xs [a, b] = 0) : disV xs a b = disZ xs a b := if_pos h
theorem disV_no {xs : List Int} {a b : Int} (h : clsC xs [a, b] ≠ 0) : disV xs a b = 0 := if_neg h
theorem dis_steps {xs : List Int} (hT : Tree xs) {a b c : Nat} (ha : a < xs.length) (hb : b < xs.length) (h1 : comZ xs (a : Int) (b : Int) = c) (h2 : (c : Int) ∈ upF xs (a : Int)) (h3 : (c : Int) ∈ upF xs (b : Int)) : stepZ xs (a : Int) (c : Int) + stepZ xs (b : Int) (c : Int) = disZ xs (a : Int) (b : Int) := by
  have e1 := upF_idx hT a ha h2
  have e2 := upF_idx hT b hb h3
  unfold stepZ disZ
  rw [h1]
  omega
theorem step_bd {xs : List Int} (hT : Tree xs) {a c : Nat} (ha : a < xs.length) (h2 : (c : Int) ∈ upF xs (a : Int)) : 0 ≤ stepZ xs (a : Int) (c : Int) ∧ stepZ xs (a : Int) (c : Int) ≤ 20 := by
  have e1 := upF_idx hT a ha h2
  have := (upF_len hT a ha).2
  have := hT.le
  unfold stepZ
  omega

/-- A slice of so many numbers. -/
def LenR (m : Nat) (w : World) (e : Ending) (w' : World) : Prop := ∃ A c, e = .returned (.slice A m c) ∧ Below w.heap.size w w'
theorem LenR.of {m : Nat} {zs : List Int} {w w' : World} {e : Ending} (hm : m = zs.length) (h : OutR zs w e w') : LenR m w e w' := by
  obtain ⟨A, n, c, rfl, hO, hb⟩ := h
  have := hO.1
  rw [intV_len] at this
  obtain rfl : m = n := by omega
  exact ⟨A, c, rfl, hb⟩

end
end Go.Proofs.YtglmibmjbignbaaGreatDoor
