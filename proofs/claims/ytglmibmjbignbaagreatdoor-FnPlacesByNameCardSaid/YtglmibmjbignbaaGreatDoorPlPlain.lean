/-
  Plain facts on places: a place as a structure, a row's cells, what makes a register.
-/
import Derived.Test.YtglmibmjbignbaaGreatDoorMy5
import Derived.Test.YtglmibmjbignbaaGreatDoorMy11
namespace Go.Proofs.YtglmibmjbignbaaGreatDoor
set_option linter.unusedVariables false
open Go.RowKit

structure Pl where
  c : ByteArray
  k : Int
  f : Int
  u : Int
  ns : List Nm
/-- A place in memory: its names' row lies at a, with room for d. -/
structure PE where
  p : Pl
  a : Option Addr
  d : Nat
def PE.nv (e : PE) : Value := .slice e.a e.p.ns.length e.d
def encE11 (e : PE) : List Value := [.string e.p.c, .int .i64 e.p.k, .int .i64 e.p.f, .int .i64 e.p.u, .slice e.a e.p.ns.length e.d]
def plV (es : List PE) : List Value := es.flatMap encE11
def plsOf (es : List PE) : List Pl := es.map (·.p)
theorem plsOf_len (es : List PE) : (plsOf es).length = es.length := by simp [plsOf]
theorem plsOf_at {es : List PE} {k : Nat} {e : PE} (h : es[k]? = some e) : (plsOf es)[k]? = some e.p := by simp [plsOf, h]
theorem plsOf_app (xs ys : List PE) : plsOf (xs ++ ys) = plsOf xs ++ plsOf ys := by simp [plsOf]
theorem plsOf_get {es : List PE} {k : Nat} {p : Pl} (h : (plsOf es)[k]? = some p) : ∃ e, es[k]? = some e ∧ e.p = p := by
  unfold plsOf at h
  rw [List.getElem?_map] at h
  cases he : es[k]? with
  | none => rw [he] at h; cases h
  | some e => rw [he] at h; exact ⟨e, rfl, Option.some.inj h⟩
theorem plV_cons (e : PE) (xs : List PE) : plV (e :: xs) = .string e.p.c :: .int .i64 e.p.k :: .int .i64 e.p.f :: .int .i64 e.p.u :: .slice e.a e.p.ns.length e.d :: plV xs := by simp [plV, encE11]
theorem plV_len : ∀ xs : List PE, (plV xs).length = xs.length * 5
  | [] => rfl
  | p :: xs => by rw [plV_cons]; simp only [List.length_cons]; rw [plV_len xs]; omega
theorem plV_app (xs ys : List PE) : plV (xs ++ ys) = plV xs ++ plV ys := by simp [plV]
theorem plV_one (e : PE) : plV [e] = encE11 e := by simp [plV]
theorem plV_at : ∀ (xs : List PE) (k : Nat) (e : PE), xs[k]? = some e → (plV xs)[k * 5]? = some (.string e.p.c) ∧ (plV xs)[k * 5 + 1]? = some (.int .i64 e.p.k) ∧ (plV xs)[k * 5 + 2]? = some (.int .i64 e.p.f) ∧ (plV xs)[k * 5 + 3]? = some (.int .i64 e.p.u) ∧ (plV xs)[k * 5 + 4]? = some (.slice e.a e.p.ns.length e.d)
  | [], k, e, h => by simp at h
  | q :: xs, 0, e, h => by
    obtain rfl : q = e := by simpa using h
    rw [plV_cons]; exact ⟨rfl, rfl, rfl, rfl, rfl⟩
  | q :: xs, k + 1, e, h => by
    have ih := plV_at xs k e (by simpa using h)
    rw [plV_cons, show (k + 1) * 5 = k * 5 + 1 + 1 + 1 + 1 + 1 by omega]
    simpa using ih
theorem pl_one11 (xs : List PE) : ∀ u ∈ plV xs, u.oneCell' = true := fun u hu => by
  unfold plV at hu
  obtain ⟨x, _, hx⟩ := List.mem_flatMap.1 hu
  unfold encE11 at hx
  simp at hx
  rcases hx with rfl | rfl | rfl | rfl | rfl <;> rfl

/-- Five cells hold a place, whose names lie below block B. -/
def PlCell (w : World) (B b o : Nat) (p : Pl) : Prop :=
  ∃ (A : Option Addr) (d : Nat), w.cell? ⟨b, o, none⟩ = some (.string p.c) ∧ w.cell? ⟨b, o + 1, none⟩ = some (.int .i64 p.k) ∧ w.cell? ⟨b, o + 2, none⟩ = some (.int .i64 p.f) ∧ w.cell? ⟨b, o + 3, none⟩ = some (.int .i64 p.u) ∧ w.cell? ⟨b, o + 4, none⟩ = some (.slice A p.ns.length d) ∧ NmAt w B A p.ns.length p.ns ∧ p.ns.length ≤ d
theorem PlCell.below {w w' : World} {B C b o : Nat} {p : Pl} (h : PlCell w B b o p) (hb : Below C w w') (h1 : b < C) (h2 : B ≤ C) : PlCell w' B b o p := by
  obtain ⟨A, d, k0, k1, k2, k3, k4, k5, k6⟩ := h
  exact ⟨A, d, (hb.cell (p := ⟨b, o, none⟩) h1).trans k0, (hb.cell (p := ⟨b, o + 1, none⟩) h1).trans k1, (hb.cell (p := ⟨b, o + 2, none⟩) h1).trans k2, (hb.cell (p := ⟨b, o + 3, none⟩) h1).trans k3, (hb.cell (p := ⟨b, o + 4, none⟩) h1).trans k4, k5.below hb h2, k6⟩
theorem PlCell.more {w : World} {B C b o : Nat} {p : Pl} (h : PlCell w B b o p) (h2 : B ≤ C) : PlCell w C b o p := by
  obtain ⟨A, d, k0, k1, k2, k3, k4, k5, k6⟩ := h
  exact ⟨A, d, k0, k1, k2, k3, k4, k5.more h2, k6⟩
/-- A slice that holds the places ps, all below block B. -/
def PlAt (w : World) (B : Nat) (A : Option Addr) (n : Nat) (ps : List Pl) : Prop :=
  n = ps.length ∧ (0 < n → ∃ b o, A = some ⟨b, o, none⟩ ∧ b < B ∧ ∀ (j : Nat) p, ps[j]? = some p → PlCell w B b (o + j * 5) p)
theorem PlAt.below {w w' : World} {B C : Nat} {A : Option Addr} {n : Nat} {ps : List Pl} (h : PlAt w B A n ps) (hb : Below C w w') (hBC : B ≤ C) : PlAt w' B A n ps :=
  ⟨h.1, fun hp => by obtain ⟨b, o, h1, h2, h3⟩ := h.2 hp; exact ⟨b, o, h1, h2, fun j r hr => (h3 j r hr).below hb (by omega) hBC⟩⟩
theorem PlAt.more {w : World} {B C : Nat} {A : Option Addr} {n : Nat} {ps : List Pl} (h : PlAt w B A n ps) (hBC : B ≤ C) : PlAt w C A n ps :=
  ⟨h.1, fun hp => by obtain ⟨b, o, h1, h2, h3⟩ := h.2 hp; exact ⟨b, o, h1, Nat.lt_of_lt_of_le h2 hBC, fun j r hr => (h3 j r hr).more hBC⟩⟩
theorem PlAt.grow {w w' : World} {A : Option Addr} {n : Nat} {ps : List Pl} (h : PlAt w w.heap.size A n ps) (hb : Below w.heap.size w w') : PlAt w' w'.heap.size A n ps := (h.below hb (Nat.le_refl _)).more hb.size
theorem PlAt.row {w : World} {B n : Nat} {A : Option Addr} {ps : List Pl} (h : PlAt w B A n ps) {k : Nat} {p : Pl} (hp : ps[k]? = some p) :
    ∃ b o, A = some ⟨b, o, none⟩ ∧ b < B ∧ PlCell w B b (o + k * 5) p := by
  have := (List.getElem?_eq_some_iff.1 hp).1
  obtain ⟨b, o, h1, h2, h3⟩ := h.2 (by have := h.1; omega)
  exact ⟨b, o, h1, h2, h3 k p hp⟩
theorem PlAt.pre {w : World} {B n k : Nat} {A : Option Addr} {xs : List Pl} (h : PlAt w B A n xs) (hk : k ≤ n) : PlAt w B A k (xs.take k) :=
  ⟨by rw [List.length_take]; have := h.1; omega, fun hp => by
    obtain ⟨b, o, h1, h2, h3⟩ := h.2 (by omega)
    exact ⟨b, o, h1, h2, fun j e he => h3 j e (by rw [List.getElem?_take] at he; split at he; exact he; cases he)⟩⟩

/-- Sizes. -/
def Sz11 (ps : List Pl) : Prop := ∀ p ∈ ps, p.c.size ≤ 1048576 ∧ p.ns.length ≤ 1048576 ∧ ∀ e ∈ p.ns, e.t.size ≤ 1048576 ∧ e.l.size ≤ 1048576
/-- The name's years lie within the years. -/
def wiB (f u : Int) (x : Nm) : Bool := decide (f ≤ x.f) && decide (x.u ≤ u)
/-- The structure is a place. -/
noncomputable def plB (p : Pl) : Bool := wordB p.c && (decide (0 ≤ p.k) && decide (p.k ≤ 19)) && spB p.f p.u && namesB p.ns && p.ns.all (wiB p.f p.u)
theorem pl_cases (p : Pl) :
    (plB p = true ∧ wordB p.c = true ∧ 0 ≤ p.k ∧ p.k ≤ 19 ∧ spB p.f p.u = true ∧ namesB p.ns = true ∧ p.ns.all (wiB p.f p.u) = true) ∨
    (plB p = false ∧ (wordB p.c = false ∨ (wordB p.c = true ∧ ((decide (0 ≤ p.k) && decide (p.k ≤ 19)) = false ∨ (0 ≤ p.k ∧ p.k ≤ 19 ∧ (spB p.f p.u = false ∨ (spB p.f p.u = true ∧ (namesB p.ns = false ∨ (namesB p.ns = true ∧ p.ns.all (wiB p.f p.u) = false))))))))) := by
  unfold plB
  cases h1 : wordB p.c
  · exact .inr ⟨by simp, .inl rfl⟩
  cases h3 : (decide (0 ≤ p.k) && decide (p.k ≤ 19))
  · exact .inr ⟨by simp, .inr ⟨rfl, .inl rfl⟩⟩
  have h4 := h3
  simp at h4
  cases h5 : spB p.f p.u
  · exact .inr ⟨by simp, .inr ⟨rfl, .inr ⟨h4.1, h4.2, .inl rfl⟩⟩⟩
  cases h6 : namesB p.ns
  · exact .inr ⟨by simp, .inr ⟨rfl, .inr ⟨h4.1, h4.2, .inr ⟨rfl, .inl rfl⟩⟩⟩⟩
  cases h7 : p.ns.all (wiB p.f p.u)
  · exact .inr ⟨by simp, .inr ⟨rfl, .inr ⟨h4.1, h4.2, .inr ⟨rfl, .inr ⟨rfl, rfl⟩⟩⟩⟩⟩
  · exact .inl ⟨by simp, rfl, h4.1, h4.2, rfl, rfl, rfl⟩
theorem pl_parts {p : Pl} (h : plB p = true) : wordB p.c = true ∧ 0 ≤ p.k ∧ p.k ≤ 19 ∧ spB p.f p.u = true ∧ namesB p.ns = true ∧ p.ns.all (wiB p.f p.u) = true := by
  rcases pl_cases p with ⟨_, h⟩ | ⟨h2, _⟩
  · exact h
  · rw [h2] at h; cases h
/-- The text comes before the other one. -/
def ltB (a b : ByteArray) : Bool := decide (a.data.toList < b.data.toList)
theorem ltB_iff (a b : ByteArray) : ltB a b = true ↔ ltT a b := by unfold ltB ltT; exact decide_eq_true_iff
theorem ltB_not (a b : ByteArray) : ltB a b = false ↔ ¬ ltT a b := by unfold ltB ltT; exact decide_eq_false_iff_not
/-- Places that may stand in a register. -/
def GoodP (ps : List Pl) : Prop := ∀ (k : Nat) p, ps[k]? = some p → plB p = true ∧ ∀ q, 0 < k → ps[k - 1]? = some q → ltB q.c p.c = true
theorem goodP_zero (xs : List Pl) : GoodP (xs.take 0) := fun k x h => by simp at h
theorem take_snocP {α : Type} {xs : List α} {k : Nat} {x : α} (h : xs[k]? = some x) : xs.take (k + 1) = xs.take k ++ [x] := take_snoc9 h
theorem take_get {α : Type} {xs : List α} {k j : Nat} {x : α} (h : (xs.take k)[j]? = some x) : j < k ∧ xs[j]? = some x := by
  rw [List.getElem?_take] at h
  split at h
  · exact ⟨by assumption, h⟩
  · cases h
theorem take_put {α : Type} {xs : List α} {k j : Nat} {x : α} (hj : j < k) (h : xs[j]? = some x) : (xs.take k)[j]? = some x := by
  rw [List.getElem?_take, if_pos hj]; exact h
theorem goodP_step {ps : List Pl} {k : Nat} {p : Pl} (h : ps[k]? = some p) (hg : GoodP (ps.take k)) (hb : plB p = true) (hl : ∀ q, 0 < k → ps[k - 1]? = some q → ltB q.c p.c = true) : GoodP (ps.take (k + 1)) := by
  intro j x hj
  obtain ⟨h1, h2⟩ := take_get hj
  by_cases hlt : j < k
  · obtain ⟨i1, i2⟩ := hg j x (take_put hlt h2)
    exact ⟨i1, fun q h0 hq => i2 q h0 (take_put (by omega) (take_get hq).2)⟩
  · obtain rfl : j = k := by omega
    rw [h] at h2
    obtain rfl := Option.some.inj h2
    exact ⟨hb, fun q h0 hq => hl q h0 (take_get hq).2⟩
theorem goodP_bad {ps : List Pl} {k : Nat} {p : Pl} (h : ps[k]? = some p) (hb : plB p = false) : ¬ GoodP ps := fun hg => by
  have := (hg k p h).1; rw [hb] at this; cases this
theorem goodP_ord {ps : List Pl} {k : Nat} {p q : Pl} (h : ps[k]? = some p) (h0 : 0 < k) (hq : ps[k - 1]? = some q) (hc : ltB q.c p.c = false) : ¬ GoodP ps := fun hg => by
  have := (hg k p h).2 q h0 hq; rw [hc] at this; cases this
theorem goodP_end {ps : List Pl} {k : Nat} (h : ps.length ≤ k) (hg : GoodP (ps.take k)) : GoodP ps := by rwa [List.take_of_length_le h] at hg
noncomputable instance (ps : List Pl) : Decidable (GoodP ps) := Classical.propDecidable _
/-- The list is a register. -/
noncomputable def regB (ps : List Pl) : Bool := decide (ps.length ≤ 10 ∧ GoodP ps)
theorem reg_long {ps : List Pl} (h : 10 < ps.length) : regB ps = false := decide_eq_false fun k => by omega
theorem reg_no {ps : List Pl} (h : ¬ GoodP ps) : regB ps = false := decide_eq_false fun k => h k.2
theorem reg_yes {ps : List Pl} (h1 : ps.length ≤ 10) (h2 : GoodP ps) : regB ps = true := decide_eq_true ⟨h1, h2⟩
theorem reg_sum {ps : List Pl} (n : Nat) (hn : n = ps.length) (h2 : GoodP ps) : regB ps = decide ((n : Int) ≤ 10) := by
  unfold regB; rw [decide_eq_decide]; constructor
  · intro h; omega
  · intro h; exact ⟨by omega, h2⟩
theorem reg_of {ps : List Pl} (h : regB ps = true) : ps.length ≤ 10 ∧ GoodP ps := of_decide_eq_true h
theorem reg_mem {ps : List Pl} (h : regB ps = true) {p : Pl} (hp : p ∈ ps) : plB p = true := by
  obtain ⟨k, hk, rfl⟩ := List.mem_iff_getElem.1 hp
  exact ((reg_of h).2 k _ (List.getElem?_eq_getElem hk)).1
/-- In a register the codes grow. -/
theorem goodP_lt {ps : List Pl} (hg : GoodP ps) : ∀ (d i : Nat) (p q : Pl), ps[i]? = some p → ps[i + d + 1]? = some q → ltT p.c q.c
  | 0, i, p, q, h1, h2 => (ltB_iff _ _).1 ((hg (i + 0 + 1) q h2).2 p (by omega) h1)
  | d + 1, i, p, q, h1, h2 => by
    have hl := (List.getElem?_eq_some_iff.1 h2).1
    obtain ⟨r, hr⟩ : ∃ r, ps[i + d + 1]? = some r := ⟨ps[i + d + 1]'(by omega), List.getElem?_eq_getElem _⟩
    exact ltT_tr _ _ _ (goodP_lt hg d i p r h1 hr) ((ltB_iff _ _).1 ((hg (i + (d + 1) + 1) q h2).2 r (by omega) hr))
theorem goodP_pair {ps : List Pl} (hg : GoodP ps) {i j : Nat} {p q : Pl} (hij : i < j) (h1 : ps[i]? = some p) (h2 : ps[j]? = some q) : ltT p.c q.c := by
  obtain ⟨d, rfl⟩ : ∃ d, j = i + d + 1 := ⟨j - i - 1, by omega⟩
  exact goodP_lt hg d i p q h1 h2

/-- Where the code is in the list or would be. -/
def atP (ps : List Pl) (c : ByteArray) : Nat := (ps.takeWhile fun p => ltB p.c c).length
theorem atP_le (ps : List Pl) (c : ByteArray) : atP ps c ≤ ps.length := by
  unfold atP; exact List.IsPrefix.length_le (List.takeWhile_prefix _)
theorem atP_lt : ∀ {ps : List Pl} {c : ByteArray} {j : Nat} {p : Pl}, j < atP ps c → ps[j]? = some p → ltB p.c c = true
  | [], c, j, p, h, hp => by simp at hp
  | q :: ps, c, j, p, h, hp => by
    unfold atP at h
    by_cases hq : ltB q.c c = true
    · rw [List.takeWhile_cons_of_pos (p := fun p : Pl => ltB p.c c) hq] at h
      cases j with
      | zero => obtain rfl : q = p := by simpa using hp
                exact hq
      | succ j => exact atP_lt (ps := ps) (j := j) (by unfold atP; simpa using h) (by simpa using hp)
    · rw [List.takeWhile_cons_of_neg (p := fun p : Pl => ltB p.c c) hq] at h; simp at h
theorem atP_stop : ∀ {ps : List Pl} {c : ByteArray} {p : Pl}, ps[atP ps c]? = some p → ltB p.c c = false
  | [], c, p, hp => by simp at hp
  | q :: ps, c, p, hp => by
    cases hq : ltB q.c c
    · have : atP (q :: ps) c = 0 := by unfold atP; rw [List.takeWhile_cons_of_neg (p := fun p : Pl => ltB p.c c) (by rw [hq]; simp)]; rfl
      rw [this] at hp
      obtain rfl : q = p := by simpa using hp
      exact hq
    · have : atP (q :: ps) c = atP ps c + 1 := by unfold atP; rw [List.takeWhile_cons_of_pos (p := fun p : Pl => ltB p.c c) hq]; rfl
      rw [this] at hp
      exact atP_stop (ps := ps) (by simpa using hp)
theorem atP_eq {ps : List Pl} {c : ByteArray} {k : Nat} (hk : k ≤ ps.length) (h1 : ∀ (j : Nat) p, j < k → ps[j]? = some p → ltB p.c c = true) (h2 : ∀ p, ps[k]? = some p → ltB p.c c = false) : atP ps c = k := by
  have hle := atP_le ps c
  rcases Nat.lt_trichotomy (atP ps c) k with h | h | h
  · obtain ⟨p, hp⟩ : ∃ p, ps[atP ps c]? = some p := ⟨ps[atP ps c]'(by omega), List.getElem?_eq_getElem _⟩
    have := atP_stop hp; rw [h1 _ p h hp] at this; cases this
  · exact h
  · obtain ⟨p, hp⟩ : ∃ p, ps[k]? = some p := ⟨ps[k]'(by omega), List.getElem?_eq_getElem _⟩
    have := atP_lt h hp; rw [h2 p hp] at this; cases this
/-- Whether a place with the code is there. -/
def thereB (ps : List Pl) (c : ByteArray) : Bool := match ps[atP ps c]? with | some p => decide (p.c = c) | none => false
theorem there_some {ps : List Pl} {c : ByteArray} {p : Pl} (h : ps[atP ps c]? = some p) : thereB ps c = decide (p.c = c) := by unfold thereB; rw [h]
theorem there_none {ps : List Pl} {c : ByteArray} (h : ps[atP ps c]? = none) : thereB ps c = false := by unfold thereB; rw [h]
theorem there_get {ps : List Pl} {c : ByteArray} (h : thereB ps c = true) : ∃ p, ps[atP ps c]? = some p ∧ p.c = c := by
  cases hp : ps[atP ps c]? with
  | none => rw [there_none hp] at h; cases h
  | some p => rw [there_some hp] at h; exact ⟨p, rfl, of_decide_eq_true h⟩
theorem there_lt {ps : List Pl} {c : ByteArray} (h : thereB ps c = true) : atP ps c < ps.length := by
  obtain ⟨p, hp, _⟩ := there_get h; exact (List.getElem?_eq_some_iff.1 hp).1
/-- In a register a place with the code can stand only there. -/
theorem good_there {ps : List Pl} {c : ByteArray} {k : Nat} {p : Pl} (hg : GoodP ps) (hp : ps[k]? = some p) (hc : p.c = c) : atP ps c = k ∧ thereB ps c = true := by
  subst hc
  have h := atP_eq (ps := ps) (c := p.c) (k := k) (by have := (List.getElem?_eq_some_iff.1 hp).1; omega) (fun j q hj hq => (ltB_iff _ _).2 (goodP_pair hg hj hq hp)) (fun q hq => by
    rw [hp] at hq; obtain rfl := Option.some.inj hq; rw [ltB_not]; exact ltT_irr _)
  exact ⟨h, by rw [there_some (by rw [h]; exact hp)]; exact decide_eq_true rfl⟩
theorem good_absent {ps : List Pl} {c : ByteArray} (hn : ∀ (j : Nat) p, ps[j]? = some p → p.c ≠ c) : thereB ps c = false := by
  cases h : thereB ps c
  · rfl
  · obtain ⟨p, hp, e⟩ := there_get h; exact absurd e (hn _ p hp)

/-- What is asked of a register and a year. -/
noncomputable def pyC (ps : List Pl) (y : Int) : Int := if regB ps then (if yrB y then 0 else 2) else 1
theorem pyC_bad {ps : List Pl} {y : Int} (h : regB ps = false) : pyC ps y = 1 := by unfold pyC; rw [h]; rfl
theorem pyC_year {ps : List Pl} {y : Int} (h : regB ps = true) (hy : yrB y = false) : pyC ps y = 2 := by unfold pyC; rw [h, hy]; rfl
theorem pyC_ok {ps : List Pl} {y : Int} (h : regB ps = true) (hy : yrB y = true) : pyC ps y = 0 := by unfold pyC; rw [h, hy]; rfl
theorem pyC_zero {ps : List Pl} {y : Int} (h : pyC ps y = 0) : regB ps = true ∧ yrB y = true := by
  unfold pyC at h
  cases h1 : regB ps <;> cases h2 : yrB y <;> simp [h1, h2] at h
  exact ⟨rfl, rfl⟩
theorem pyC_cases (ps : List Pl) (y : Int) : (pyC ps y = 1 ∧ regB ps = false) ∨ (pyC ps y = 2 ∧ regB ps = true ∧ yrB y = false) ∨ (pyC ps y = 0 ∧ regB ps = true ∧ yrB y = true) := by
  cases h1 : regB ps
  · exact .inl ⟨pyC_bad h1, rfl⟩
  cases h2 : yrB y
  · exact .inr (.inl ⟨pyC_year h1 h2, rfl, rfl⟩)
  · exact .inr (.inr ⟨pyC_ok h1 h2, rfl, rfl⟩)
/-- What is asked of a register, a code and a year. -/
noncomputable def pcC (ps : List Pl) (c : ByteArray) (y : Int) : Int := if regB ps && wordB c then (if yrB y then (if thereB ps c then 0 else 4) else 2) else 1
theorem pcC_cases (ps : List Pl) (c : ByteArray) (y : Int) : (pcC ps c y = 1 ∧ regB ps = false) ∨ (pcC ps c y = 1 ∧ regB ps = true ∧ wordB c = false) ∨ (pcC ps c y = 2 ∧ regB ps = true ∧ wordB c = true ∧ yrB y = false) ∨ (pcC ps c y = 4 ∧ regB ps = true ∧ wordB c = true ∧ yrB y = true ∧ thereB ps c = false) ∨ (pcC ps c y = 0 ∧ regB ps = true ∧ wordB c = true ∧ yrB y = true ∧ thereB ps c = true) := by
  unfold pcC
  cases h1 : regB ps
  · exact .inl ⟨rfl, rfl⟩
  cases h2 : wordB c
  · exact .inr (.inl ⟨rfl, rfl, rfl⟩)
  cases h3 : yrB y
  · exact .inr (.inr (.inl ⟨rfl, rfl, rfl, rfl⟩))
  cases h4 : thereB ps c
  · exact .inr (.inr (.inr (.inl ⟨rfl, rfl, rfl, rfl, rfl⟩)))
  · exact .inr (.inr (.inr (.inr ⟨rfl, rfl, rfl, rfl, rfl⟩)))
end Go.Proofs.YtglmibmjbignbaaGreatDoor
