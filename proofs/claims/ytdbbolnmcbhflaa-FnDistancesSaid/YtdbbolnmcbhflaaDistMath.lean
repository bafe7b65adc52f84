/-
  The mathematics of the law of distances: symmetry, bounds, and how letters in common, distance and common start fit.
-/
import Derived.Test.YtdbbolnmcbhflaaDpPlain
import Derived.Test.YtdbbolnmcbhflaaStartPlain
namespace Go.Proofs.Ytdbbolnmcbhflaa
set_option linter.unusedVariables false

theorem disR_sym (e : Nat → Nat → Bool) : ∀ i j, disR e i j = disR (fun x y => e y x) j i
  | 0, j => by rw [disR_zero, disR_col]
  | i + 1, 0 => by rw [disR_zero, disR_col]
  | i + 1, j + 1 => by
    rw [disR_next, disR_next, disR_sym e i j, disR_sym e i (j + 1), disR_sym e (i + 1) j]
    omega
theorem disR_lo (e : Nat → Nat → Bool) : ∀ (i j : Nat), (i : Int) - j ≤ disR e i j ∧ (j : Int) - i ≤ disR e i j
  | 0, j => by rw [disR_zero]; omega
  | i + 1, 0 => by rw [disR_col]; omega
  | i + 1, j + 1 => by
    have h1 := disR_lo e i j
    have h2 := disR_lo e i (j + 1)
    have h3 := disR_lo e (i + 1) j
    rw [disR_next]
    split <;> omega
theorem disR_hi (e : Nat → Nat → Bool) : ∀ (i j : Nat), disR e i j ≤ i ∨ disR e i j ≤ j
  | 0, j => by rw [disR_zero]; omega
  | i + 1, 0 => by rw [disR_col]; omega
  | i + 1, j + 1 => by
    have h1 := disR_hi e i j
    rw [disR_next]
    split <;> omega
theorem lcsR_lip (e : Nat → Nat → Bool) : ∀ i, (∀ j, lcsR e i j ≤ lcsR e i (j + 1) ∧ lcsR e i (j + 1) ≤ lcsR e i j + 1) ∧ (∀ j, lcsR e i j ≤ lcsR e (i + 1) j ∧ lcsR e (i + 1) j ≤ lcsR e i j + 1) := by
  have col : ∀ i, (∀ j, lcsR e i j ≤ lcsR e i (j + 1) ∧ lcsR e i (j + 1) ≤ lcsR e i j + 1) → ∀ j, lcsR e i j ≤ lcsR e (i + 1) j ∧ lcsR e (i + 1) j ≤ lcsR e i j + 1 := by
    intro i hR j
    induction j with
    | zero => rw [lcsR_col, lcsR_col]; omega
    | succ j ih =>
      have h := hR j
      cases he : e i j
      · rw [lcsR_miss e i j he]; omega
      · rw [lcsR_hit e i j he]; omega
  intro i
  induction i with
  | zero => exact ⟨fun j => by rw [lcsR_zero, lcsR_zero]; omega, col 0 (fun j => by rw [lcsR_zero, lcsR_zero]; omega)⟩
  | succ i ih =>
    have hR : ∀ j, lcsR e (i + 1) j ≤ lcsR e (i + 1) (j + 1) ∧ lcsR e (i + 1) (j + 1) ≤ lcsR e (i + 1) j + 1 := by
      intro j
      have h1 := ih.1 j
      have h2 := ih.2 j
      cases he : e i j
      · rw [lcsR_miss e i j he]; omega
      · rw [lcsR_hit e i j he]; omega
    exact ⟨hR, col (i + 1) hR⟩
theorem lcsR_hi (e : Nat → Nat → Bool) : ∀ (i j : Nat), lcsR e i j ≤ j
  | 0, j => by rw [lcsR_zero]; omega
  | i + 1, 0 => by rw [lcsR_col]; omega
  | i + 1, j + 1 => by
    have h1 := lcsR_hi e i j
    have h2 := lcsR_hi e i (j + 1)
    have h3 := lcsR_hi e (i + 1) j
    cases he : e i j
    · rw [lcsR_miss e i j he]; omega
    · rw [lcsR_hit e i j he]; omega
theorem both_lo (e : Nat → Nat → Bool) : ∀ (i j : Nat), (i : Int) ≤ disR e i j + lcsR e i j ∧ (j : Int) ≤ disR e i j + lcsR e i j
  | 0, j => by rw [disR_zero, lcsR_zero]; omega
  | i + 1, 0 => by rw [disR_col, lcsR_col]; omega
  | i + 1, j + 1 => by
    have h1 := both_lo e i j
    have h2 := both_lo e i (j + 1)
    have h3 := both_lo e (i + 1) j
    have l1 := (lcsR_lip e i).1 j
    have l2 := (lcsR_lip e i).2 j
    have l3 := (lcsR_lip e i).2 (j + 1)
    have l4 := (lcsR_lip e (i + 1)).1 j
    rw [disR_next]
    cases he : e i j
    · rw [lcsR_miss e i j he, if_neg (by simp)] at *; omega
    · rw [lcsR_hit e i j he, if_pos rfl] at *; omega
theorem both_hi (e : Nat → Nat → Bool) : ∀ (i j : Nat), disR e i j + 2 * lcsR e i j ≤ i + j
  | 0, j => by rw [disR_zero, lcsR_zero]; omega
  | i + 1, 0 => by rw [disR_col, lcsR_col]; omega
  | i + 1, j + 1 => by
    have h1 := both_hi e i j
    have h2 := both_hi e i (j + 1)
    have h3 := both_hi e (i + 1) j
    rw [disR_next]
    cases he : e i j
    · rw [lcsR_miss e i j he, if_neg (by simp)]; omega
    · rw [lcsR_hit e i j he, if_pos rfl]; omega
theorem disR_null (e : Nat → Nat → Bool) : ∀ (i j : Nat), disR e i j = 0 → i = j ∧ ∀ x, x < i → e x x = true
  | 0, j, h => by rw [disR_zero] at h; exact ⟨by omega, fun x hx => by omega⟩
  | i + 1, 0, h => by rw [disR_col] at h; omega
  | i + 1, j + 1, h => by
    have b1 := disR_bd e i j
    have b2 := disR_bd e i (j + 1)
    have b3 := disR_bd e (i + 1) j
    rw [disR_next] at h
    cases he : e i j
    · rw [he, if_neg (by simp)] at h; omega
    · rw [he, if_pos rfl] at h
      obtain ⟨h1, h2⟩ := disR_null e i j (by omega)
      subst h1
      refine ⟨rfl, fun x hx => ?_⟩
      by_cases hxi : x < i
      · exact h2 x hxi
      · obtain rfl : x = i := by omega
        exact he
theorem disR_diag (e : Nat → Nat → Bool) : ∀ (i : Nat), (∀ x, x < i → e x x = true) → disR e i i = 0
  | 0, _ => rfl
  | i + 1, h => by
    have h1 := disR_diag e i (fun x hx => h x (by omega))
    have b2 := disR_bd e i (i + 1)
    have b3 := disR_bd e (i + 1) i
    rw [disR_next, h i (by omega), if_pos rfl]; omega
theorem lcsR_diag (e : Nat → Nat → Bool) : ∀ (i : Nat), (∀ x, x < i → e x x = true) → lcsR e i i = i
  | 0, _ => rfl
  | i + 1, h => by
    rw [lcsR_hit e i i (h i (by omega)), lcsR_diag e i (fun x hx => h x (by omega))]; omega
theorem lcsR_mono (e : Nat → Nat → Bool) (i j : Nat) : ∀ (d f : Nat), lcsR e i j ≤ lcsR e (i + d) (j + f)
  | 0, 0 => Int.le_refl _
  | 0, f + 1 => by
    have h := lcsR_mono e i j 0 f
    have l := (lcsR_lip e (i + 0)).1 (j + f)
    have e1 : j + (f + 1) = j + f + 1 := by omega
    rw [e1]; omega
  | d + 1, f => by
    have h := lcsR_mono e i j d f
    have l := (lcsR_lip e (i + d)).2 (j + f)
    have e1 : i + (d + 1) = i + d + 1 := by omega
    rw [e1]; omega
theorem startL_same : ∀ (a b : List UInt8) (i : Nat), i < startL a b → a[i]? = b[i]?
  | [], _, i, h => by simp [startL] at h
  | _ :: _, [], i, h => by simp [startL] at h
  | x :: a, y :: b, i, h => by
    simp only [startL] at h
    split at h
    · rename_i hxy
      subst hxy
      cases i with
      | zero => rfl
      | succ i => simpa using startL_same a b i (by omega)
    · omega

theorem same_flip (a b : ByteArray) : (fun x y => same a b y x) = same b a := by
  funext x y
  unfold same
  rw [decide_eq_decide]
  exact eq_comm
theorem dis_sym (a b : ByteArray) : dis b a b.size a.size = dis a b a.size b.size := by
  unfold dis
  rw [disR_sym (same a b) a.size b.size, same_flip]
theorem dis_zero (a b : ByteArray) : dis a b a.size b.size = 0 ↔ a = b := by
  constructor
  · intro h
    obtain ⟨h1, h2⟩ := disR_null (same a b) a.size b.size h
    apply ByteArray.ext; apply Array.toList_inj.1
    apply List.ext_getElem?
    intro i
    by_cases hi : i < a.size
    · have := h2 i hi; unfold same at this; simpa using this
    · rw [List.getElem?_eq_none (by simp; omega), List.getElem?_eq_none (by simp; omega)]
  · rintro rfl
    exact disR_diag _ _ (fun x hx => by unfold same; simp)
theorem start_lcs (a b : ByteArray) : (startB a b : Int) ≤ lcs a b a.size b.size := by
  have hle := startB_le a b
  have h1 := lcsR_diag (same a b) (startB a b) (fun x hx => by unfold same; exact decide_eq_true (startL_same _ _ x hx))
  have h2 := lcsR_mono (same a b) (startB a b) (startB a b) (a.size - startB a b) (b.size - startB a b)
  rw [show startB a b + (a.size - startB a b) = a.size by omega, show startB a b + (b.size - startB a b) = b.size by omega, h1] at h2
  exact h2
/-- All that the law asks of the numbers. -/
theorem dist_facts (a b : ByteArray) : (a.size : Int) - b.size ≤ dis a b a.size b.size ∧ (b.size : Int) - a.size ≤ dis a b a.size b.size ∧ (dis a b a.size b.size ≤ a.size ∨ dis a b a.size b.size ≤ b.size) ∧
    lcs a b a.size b.size ≤ a.size ∧ lcs a b a.size b.size ≤ b.size ∧ (a.size : Int) ≤ dis a b a.size b.size + lcs a b a.size b.size ∧ (b.size : Int) ≤ dis a b a.size b.size + lcs a b a.size b.size ∧
    dis a b a.size b.size + 2 * lcs a b a.size b.size ≤ (a.size : Int) + b.size ∧ (startB a b : Int) ≤ lcs a b a.size b.size ∧ 0 ≤ dis a b a.size b.size ∧ 0 ≤ lcs a b a.size b.size :=
  ⟨(disR_lo _ _ _).1, (disR_lo _ _ _).2, disR_hi _ _ _, (lcsR_bd _ _ _).2, lcsR_hi _ _ _, (both_lo _ _ _).1, (both_lo _ _ _).2, both_hi _ _ _, start_lcs a b, (disR_bd _ _ _).1, (lcsR_bd _ _ _).1⟩
end Go.Proofs.Ytdbbolnmcbhflaa
