/-
  Plain facts: what is left of spans when years are taken away; lists of spans with gaps have a bounded length.
-/
import Derived.Test.YthlajgkelggnkaaSpanPlain
namespace Go.Proofs.Ythlajgkelggnkaa
set_option linter.unusedVariables false

theorem memS_of {xs : List Sp} {p : Sp} (hp : p ∈ xs) (h : p.1 ≤ p.2) : memS p.1 xs ∧ memS p.2 xs := ⟨⟨p, hp, Int.le_refl _, h⟩, ⟨p, hp, h, Int.le_refl _⟩⟩
theorem sep_iff : ∀ (xs : List Sp), Sep xs ↔ (∀ p ∈ xs, -3000 ≤ p.1 ∧ p.1 ≤ p.2 ∧ p.2 ≤ 3000) ∧ xs.Pairwise (fun p q => p.2 + 2 ≤ q.1)
  | [] => by simp [Sep]
  | p :: xs => by
    rw [List.pairwise_cons, List.forall_mem_cons]
    constructor
    · intro h
      have ih := (sep_iff xs).1 h.tail
      refine ⟨⟨⟨h.1, h.2.1, h.2.2.1⟩, ih.1⟩, fun q hq => ?_, ih.2⟩
      exact h.above (memS_of hq (ih.1 q hq).2.1).1
    · rintro ⟨⟨h1, h2⟩, h3, h4⟩
      refine ⟨h1.1, h1.2.1, h1.2.2, ?_, (sep_iff xs).2 ⟨h2, h4⟩⟩
      cases xs with
      | nil => trivial
      | cons q r => exact h3 q List.mem_cons_self
theorem sep_len : ∀ (xs : List Sp) (p : Sp), Sep (p :: xs) → (xs.length : Int) * 2 + p.1 ≤ 3000
  | [], p, h => by have := h.2.1; have := h.2.2.1; simp; omega
  | q :: xs, p, h => by
    have ih := sep_len xs q h.tail
    have h1 := h.2.1
    have h2 : p.2 + 2 ≤ q.1 := h.2.2.2.1
    rw [List.length_cons]; omega
theorem sep_short {xs : List Sp} (h : Sep xs) : xs.length ≤ 3001 := by
  cases xs with
  | nil => simp
  | cons p xs => have := sep_len xs p h; have := h.1; rw [List.length_cons]; omega

/-- What is left of the span p without the years from u to v. -/
def cutS (u v : Int) (p : Sp) : List Sp := (if p.1 < u then [(p.1, min p.2 (u - 1))] else []) ++ (if v < p.2 then [(max p.1 (v + 1), p.2)] else [])
theorem cutS_mem {u v : Int} {p q : Sp} (h : q ∈ cutS u v p) (hp : p.1 ≤ p.2) (huv : u ≤ v) : p.1 ≤ q.1 ∧ q.1 ≤ q.2 ∧ q.2 ≤ p.2 := by
  unfold cutS at h
  rcases List.mem_append.1 h with h | h
  · split at h
    · simp at h; subst h; simp only; omega
    · cases h
  · split at h
    · simp at h; subst h; simp only; omega
    · cases h
theorem cutS_pair {u v : Int} {p : Sp} (huv : u ≤ v) : (cutS u v p).Pairwise (fun p q => p.2 + 2 ≤ q.1) := by
  unfold cutS
  split <;> split <;> simp
  omega
theorem memS_if {z : Int} {c : Prop} [Decidable c] {q : Sp} : memS z (if c then [q] else []) ↔ c ∧ q.1 ≤ z ∧ z ≤ q.2 := by
  by_cases h : c
  · rw [if_pos h, memS_one]; simp [h]
  · rw [if_neg h]; simp [h, memS_nil]
theorem cutS_has {u v z : Int} {p : Sp} (huv : u ≤ v) : memS z (cutS u v p) ↔ (p.1 ≤ z ∧ z ≤ p.2) ∧ ¬ (u ≤ z ∧ z ≤ v) := by
  unfold cutS
  rw [memS_app, memS_if, memS_if]
  simp only
  omega
theorem cut_sep {u v : Int} {xs : List Sp} (huv : u ≤ v) (h : Sep xs) : Sep (xs.flatMap (cutS u v)) := by
  rw [sep_iff] at h ⊢
  refine ⟨fun q hq => ?_, ?_⟩
  · obtain ⟨p, hp, hq⟩ := List.mem_flatMap.1 hq
    have h1 := h.1 p hp
    have h2 := cutS_mem hq h1.2.1 huv
    omega
  · rw [List.pairwise_flatMap]
    refine ⟨fun p _ => cutS_pair huv, ?_⟩
    refine List.Pairwise.imp_of_mem ?_ h.2
    intro p q hp hq hpq x hx y hy
    have h1 := cutS_mem hx (h.1 p hp).2.1 huv
    have h2 := cutS_mem hy (h.1 q hq).2.1 huv
    omega
theorem memS_flatMap {z : Int} {f : Sp → List Sp} (xs : List Sp) : memS z (xs.flatMap f) ↔ ∃ p ∈ xs, memS z (f p) := by
  unfold memS
  constructor
  · rintro ⟨q, hq, h⟩
    obtain ⟨p, hp, hq⟩ := List.mem_flatMap.1 hq
    exact ⟨p, hp, q, hq, h⟩
  · rintro ⟨p, hp, q, hq, h⟩
    exact ⟨q, List.mem_flatMap.2 ⟨p, hp, hq⟩, h⟩
theorem cut_has {u v z : Int} {xs : List Sp} (huv : u ≤ v) : memS z (xs.flatMap (cutS u v)) ↔ memS z xs ∧ ¬ (u ≤ z ∧ z ≤ v) := by
  rw [memS_flatMap]
  constructor
  · rintro ⟨p, hp, h⟩
    rw [cutS_has huv] at h
    exact ⟨⟨p, hp, h.1⟩, h.2⟩
  · rintro ⟨⟨p, hp, h⟩, h2⟩
    exact ⟨p, hp, (cutS_has huv).2 ⟨h, h2⟩⟩
theorem cut_len (u v : Int) (xs : List Sp) : (xs.flatMap (cutS u v)).length ≤ xs.length * 2 := by
  induction xs with
  | nil => simp
  | cons p xs ih =>
    rw [List.flatMap_cons, List.length_append, List.length_cons]
    have : (cutS u v p).length ≤ 2 := by unfold cutS; split <;> split <;> simp
    omega
theorem flat_step {α β : Type} (f : α → List β) (xs : List α) (k : Nat) (p : α) (h : xs[k]? = some p) : (xs.take (k + 1)).flatMap f = (xs.take k).flatMap f ++ f p := by
  have hl := (List.getElem?_eq_some_iff.1 h).1
  have he : xs[k] = p := (List.getElem?_eq_some_iff.1 h).2
  rw [List.take_succ_eq_append_getElem hl, he, List.flatMap_append]; simp

/-- What is left of xs without the first k spans of ys. -/
def Left (xs ys : List Sp) (k : Nat) (zs : List Sp) : Prop := Sep zs ∧ ∀ z, memS z zs ↔ memS z xs ∧ ¬ memS z (ys.take k)
theorem Left.start {xs : List Sp} (ys : List Sp) (h : Sep xs) : Left xs ys 0 xs := ⟨h, fun z => by rw [List.take_zero]; exact ⟨fun h => ⟨h, memS_nil z⟩, fun h => h.1⟩⟩
theorem Left.step {xs ys zs : List Sp} {k : Nat} {u v : Int} (h : Left xs ys k zs) (hk : ys[k]? = some (u, v)) (huv : u ≤ v) : Left xs ys (k + 1) (zs.flatMap (cutS u v)) := by
  have hl := (List.getElem?_eq_some_iff.1 hk).1
  have he : ys[k] = (u, v) := (List.getElem?_eq_some_iff.1 hk).2
  refine ⟨cut_sep huv h.1, fun z => ?_⟩
  rw [cut_has huv, h.2 z, List.take_succ_eq_append_getElem hl, he, memS_app, memS_one]
  simp only
  constructor
  · rintro ⟨⟨h1, h2⟩, h3⟩; exact ⟨h1, fun h => h.elim h2 h3⟩
  · rintro ⟨h1, h2⟩; exact ⟨⟨h1, fun h => h2 (.inl h)⟩, fun h => h2 (.inr h)⟩
end Go.Proofs.Ythlajgkelggnkaa
