/-
  Plain facts on what is asked of names: the used ones, the official one, the best one.
-/
import Derived.Test.YtglmibmjbignbaaGreatDoorMy5
namespace Go.Proofs.YtglmibmjbignbaaGreatDoor
set_option linter.unusedVariables false
open Go.RowKit

/-! ### the used ones -/
/-- The indices below k of the names that are used in a year. -/
def usP (xs : List Nm) (y : Int) : Nat → List Int
  | 0 => []
  | k + 1 => usP xs y k ++ (match xs[k]? with | some x => if usB x y then [(k : Int)] else [] | none => [])
theorem usP_yes {xs : List Nm} {y : Int} {k : Nat} {x : Nm} (h : xs[k]? = some x) (hu : usB x y = true) : usP xs y (k + 1) = usP xs y k ++ [(k : Int)] := by
  show usP xs y k ++ _ = _; rw [h]; simp [hu]
theorem usP_no {xs : List Nm} {y : Int} {k : Nat} {x : Nm} (h : xs[k]? = some x) (hu : usB x y = false) : usP xs y (k + 1) = usP xs y k := by
  show usP xs y k ++ _ = _; rw [h]; simp [hu]
theorem usP_len (xs : List Nm) (y : Int) : ∀ k, (usP xs y k).length ≤ k
  | 0 => Nat.le_refl _
  | k + 1 => by
    have ih := usP_len xs y k
    show (usP xs y k ++ _).length ≤ _
    rw [List.length_append]
    split
    · split <;> simp <;> omega
    · simp; omega
/-- Each member is the index of a name that is used. -/
theorem usP_mem (xs : List Nm) (y : Int) : ∀ (k : Nat) (v : Int), v ∈ usP xs y k → ∃ (j : Nat) (x : Nm), v = (j : Int) ∧ j < k ∧ xs[j]? = some x ∧ usB x y = true
  | 0, v, h => by simp [usP] at h
  | k + 1, v, h => by
    have h' : v ∈ usP xs y k ++ (match xs[k]? with | some x => if usB x y then [(k : Int)] else [] | none => []) := h
    rw [List.mem_append] at h'
    rcases h' with h' | h'
    · obtain ⟨j, x, h1, h2, h3⟩ := usP_mem xs y k v h'
      exact ⟨j, x, h1, by omega, h3⟩
    · cases hx : xs[k]? with
      | none => rw [hx] at h'; simp at h'
      | some x =>
        rw [hx] at h'
        cases hu : usB x y
        · simp [hu] at h'
        · simp [hu] at h'
          exact ⟨k, x, h', by omega, hx, hu⟩

/-! ### a search over the names -/
/-- The first index from k on at which p holds. -/
def fstF (p : Nm → Bool) (xs : List Nm) : Option Nat := (List.range xs.length).find? fun i => match xs[i]? with | some x => p x | none => false
theorem range_find {q : Nat → Bool} {n k : Nat} (hk : k < n) (h : q k = true) (hn : ∀ j, j < k → q j = false) : (List.range n).find? q = some k := by
  rw [List.find?_range_eq_some]
  exact ⟨h, by simpa using hk, fun j hj => by simp [hn j hj]⟩
theorem range_find_none {q : Nat → Bool} {n : Nat} (hn : ∀ j, j < n → q j = false) : (List.range n).find? q = none := by
  rw [List.find?_range_eq_none]; intro j hj; simp [hn j hj]
theorem fst_hit {p : Nm → Bool} {xs : List Nm} {k : Nat} {x : Nm} (h : xs[k]? = some x) (hp : p x = true) (hn : ∀ (j : Nat) z, j < k → xs[j]? = some z → p z = false) : fstF p xs = some k := by
  refine range_find (List.getElem?_eq_some_iff.1 h).1 (by rw [h]; exact hp) fun j hj => ?_
  cases hz : xs[j]? with
  | none => rfl
  | some z => exact hn j z hj hz
theorem fst_miss {p : Nm → Bool} {xs : List Nm} (hn : ∀ (j : Nat) z, xs[j]? = some z → p z = false) : fstF p xs = none := by
  refine range_find_none fun j hj => ?_
  cases hz : xs[j]? with
  | none => rfl
  | some z => exact hn j z hz
theorem fst_some {p : Nm → Bool} {xs : List Nm} {k : Nat} (h : fstF p xs = some k) : ∃ x, xs[k]? = some x ∧ p x = true ∧ ∀ (j : Nat) z, j < k → xs[j]? = some z → p z = false := by
  unfold fstF at h
  rw [List.find?_range_eq_some] at h
  obtain ⟨h1, h2, h3⟩ := h
  have h2 : k < xs.length := by simpa using h2
  refine ⟨xs[k], List.getElem?_eq_getElem h2, ?_, fun j z hj hz => ?_⟩
  · rw [List.getElem?_eq_getElem h2] at h1; exact h1
  · have := h3 j hj; rw [hz] at this; simpa using this
theorem fst_none {p : Nm → Bool} {xs : List Nm} (h : fstF p xs = none) (j : Nat) (z : Nm) (hz : xs[j]? = some z) : p z = false := by
  unfold fstF at h
  rw [List.find?_range_eq_none] at h
  have := h j (List.getElem?_eq_some_iff.1 hz).1
  rw [hz] at this; simpa using this
/-- Official with the language. -/
def ofB (l : ByteArray) (x : Nm) : Bool := decide (x.s = 0) && decide (x.l = l)
/-- Official with the language in the year. -/
def ouB (l : ByteArray) (y : Int) (x : Nm) : Bool := ofB l x && usB x y
noncomputable def offF (xs : List Nm) (l : ByteArray) (y : Int) : Option Nat := fstF (ouB l y) xs
noncomputable def offC (xs : List Nm) (l : ByteArray) (y : Int) : Int := if qC xs [l] y = 0 then (match offF xs l y with | some _ => 0 | none => 4) else qC xs [l] y
noncomputable def offZ (xs : List Nm) (l : ByteArray) (y : Int) : Int := if qC xs [l] y = 0 then (match offF xs l y with | some k => (k : Int) | none => 0) else 0

/-! ### the least status -/
/-- The best index below k of a language in a year. -/
def lsF (xs : List Nm) (l : ByteArray) (y : Int) : Nat → Option Nat
  | 0 => none
  | k + 1 => match xs[k]? with
    | some x => if decide (x.l = l) && usB x y then (match lsF xs l y k with
        | some b => (match xs[b]? with | some z => if decide (x.s < z.s) then some k else some b | none => some b)
        | none => some k) else lsF xs l y k
    | none => lsF xs l y k
theorem ls_skip {xs : List Nm} {l : ByteArray} {y : Int} {k : Nat} {x : Nm} (h : xs[k]? = some x) (hc : (decide (x.l = l) && usB x y) = false) : lsF xs l y (k + 1) = lsF xs l y k := by
  simp only [lsF, h, hc]; rfl
theorem ls_first {xs : List Nm} {l : ByteArray} {y : Int} {k : Nat} {x : Nm} (h : xs[k]? = some x) (hc : (decide (x.l = l) && usB x y) = true) (hn : lsF xs l y k = none) : lsF xs l y (k + 1) = some k := by
  simp only [lsF, h, hc, hn]; rfl
theorem ls_better {xs : List Nm} {l : ByteArray} {y : Int} {k b : Nat} {x z : Nm} (h : xs[k]? = some x) (hc : (decide (x.l = l) && usB x y) = true) (hn : lsF xs l y k = some b) (hb : xs[b]? = some z) (hs : x.s < z.s) : lsF xs l y (k + 1) = some k := by
  simp only [lsF, h, hc, hn, hb, decide_eq_true hs]; rfl
theorem ls_worse {xs : List Nm} {l : ByteArray} {y : Int} {k b : Nat} {x z : Nm} (h : xs[k]? = some x) (hc : (decide (x.l = l) && usB x y) = true) (hn : lsF xs l y k = some b) (hb : xs[b]? = some z) (hs : ¬ x.s < z.s) : lsF xs l y (k + 1) = some b := by
  simp only [lsF, h, hc, hn, hb, decide_eq_false hs]; rfl
theorem ls_lt (xs : List Nm) (l : ByteArray) (y : Int) : ∀ (k b : Nat), lsF xs l y k = some b → b < k ∧ ∃ x, xs[b]? = some x ∧ x.l = l
  | 0, b, h => by simp [lsF] at h
  | k + 1, b, h => by
    have ih := ls_lt xs l y k
    cases hx : xs[k]? with
    | none => simp only [lsF, hx] at h; have := ih b h; exact ⟨by omega, this.2⟩
    | some x =>
      cases hc : (decide (x.l = l) && usB x y)
      · rw [ls_skip hx hc] at h; have := ih b h; exact ⟨by omega, this.2⟩
      · have hl : x.l = l := by simp at hc; exact hc.1
        cases hb : lsF xs l y k with
        | none => rw [ls_first hx hc hb] at h; cases h; exact ⟨by omega, x, hx, hl⟩
        | some d =>
          obtain ⟨h1, z, h2, h3⟩ := ih d hb
          by_cases hs : x.s < z.s
          · rw [ls_better hx hc hb h2 hs] at h; cases h; exact ⟨by omega, x, hx, hl⟩
          · rw [ls_worse hx hc hb h2 hs] at h; cases h; exact ⟨by omega, z, h2, h3⟩
/-- The best index over the languages of a list. -/
def bestF (xs : List Nm) (y : Int) : List ByteArray → Option Nat
  | [] => none
  | l :: ls => match lsF xs l y xs.length with | some b => some b | none => bestF xs y ls
theorem best_hit {xs : List Nm} {y : Int} {l : ByteArray} {b : Nat} (hl : lsF xs l y xs.length = some b) : ∀ {ls : List ByteArray} {k : Nat}, ls[k]? = some l → (∀ (j : Nat) z, j < k → ls[j]? = some z → lsF xs z y xs.length = none) → bestF xs y ls = some b
  | [], k, h, _ => by simp at h
  | q :: ls, 0, h, _ => by
    obtain rfl : q = l := by simpa using h
    simp only [bestF, hl]
  | q :: ls, k + 1, h, hn => by
    have h0 := hn 0 q (by omega) rfl
    simp only [bestF, h0]
    exact best_hit hl (ls := ls) (k := k) (by simpa using h) fun j z hj hz => hn (j + 1) z (by omega) (by simpa using hz)
theorem best_miss {xs : List Nm} {y : Int} : ∀ {ls : List ByteArray}, (∀ (j : Nat) z, ls[j]? = some z → lsF xs z y xs.length = none) → bestF xs y ls = none
  | [], _ => rfl
  | q :: ls, hn => by
    have h0 := hn 0 q rfl
    simp only [bestF, h0]
    exact best_miss (ls := ls) fun j z hz => hn (j + 1) z (by simpa using hz)
noncomputable def beC (xs : List Nm) (ls : List ByteArray) (y : Int) : Int := if qC xs ls y = 0 then (match bestF xs y ls with | some _ => 0 | none => 4) else qC xs ls y
noncomputable def beZ (xs : List Nm) (ls : List ByteArray) (y : Int) : Int := if qC xs ls y = 0 then (match bestF xs y ls with | some k => (k : Int) | none => 0) else 0
noncomputable def usZ (xs : List Nm) (y : Int) : List Int := if qC xs [] y = 0 then usP xs y xs.length else []
theorem usZ_len (xs : List Nm) (y : Int) : (usZ xs y).length ≤ 12 := by
  unfold usZ
  split
  · rename_i h
    unfold qC at h
    cases hn : namesB xs
    · rw [hn] at h; simp at h
    · have := usP_len xs y xs.length; have := (names_of hn).1; omega
  · simp
theorem qC_bad {xs : List Nm} {ls : List ByteArray} {y : Int} (h : (namesB xs && ls.all langB) = false) : qC xs ls y = 1 := by unfold qC; rw [h]; rfl
theorem qC_year {xs : List Nm} {ls : List ByteArray} {y : Int} (h : (namesB xs && ls.all langB) = true) (hy : yrB y = false) : qC xs ls y = 2 := by unfold qC; rw [h, hy]; rfl
theorem qC_ok {xs : List Nm} {ls : List ByteArray} {y : Int} (h : (namesB xs && ls.all langB) = true) (hy : yrB y = true) : qC xs ls y = 0 := by unfold qC; rw [h, hy]; rfl
theorem qC_cases (xs : List Nm) (ls : List ByteArray) (y : Int) : (qC xs ls y = 1 ∧ namesB xs = false) ∨ (qC xs ls y = 1 ∧ namesB xs = true ∧ ls.all langB = false) ∨ (qC xs ls y = 2 ∧ namesB xs = true ∧ ls.all langB = true ∧ yrB y = false) ∨ (qC xs ls y = 0 ∧ namesB xs = true ∧ ls.all langB = true ∧ yrB y = true) := by
  cases h1 : namesB xs
  · exact .inl ⟨qC_bad (by rw [h1]; rfl), rfl⟩
  cases h2 : ls.all langB
  · exact .inr (.inl ⟨qC_bad (by rw [h1, h2]; rfl), rfl, rfl⟩)
  cases h3 : yrB y
  · exact .inr (.inr (.inl ⟨qC_year (by rw [h1, h2]; rfl) h3, rfl, rfl, rfl⟩))
  · exact .inr (.inr (.inr ⟨qC_ok (by rw [h1, h2]; rfl) h3, rfl, rfl, rfl⟩))
end Go.Proofs.YtglmibmjbignbaaGreatDoor
