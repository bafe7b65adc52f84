/-
  Trees of classes: what is one, the ways up, the common kind, the classes below another one (plain).
-/
import Derived.Test.YtglmibmjbignbaaGreatDoorMy1
namespace Go.Proofs.YtglmibmjbignbaaGreatDoor
set_option linter.unusedVariables false

def okT10 (xs : List Int) (k : Nat) : Bool := (List.range k).all fun j => decide (j = 0) || (decide (0 ≤ xs.getD j 0) && decide (xs.getD j 0 < (j : Int)))
theorem okT10_one (xs : List Int) : okT10 xs 1 = true := rfl
theorem okT10_step {xs : List Int} {k : Nat} {x : Int} (h : xs[k]? = some x) (ha : okT10 xs k = true) (h0 : 0 ≤ x) (h1 : x < (k : Int)) : okT10 xs (k + 1) = true := by
  unfold okT10 at *
  rw [List.range_succ, List.all_append, ha, List.all_cons, List.all_nil, List.getD_eq_getElem?_getD, h]
  simp [h0, h1]
theorem okT10_stop {xs : List Int} {k n : Nat} {x : Int} (h : xs[k]? = some x) (hk : 0 < k) (hn : k < n) (hb : x < 0 ∨ (k : Int) ≤ x) : okT10 xs n = false := by
  unfold okT10
  rw [List.all_eq_false]
  refine ⟨k, List.mem_range.2 hn, ?_⟩
  rw [List.getD_eq_getElem?_getD, h]
  simp
  omega
def headT (xs : List Int) : Bool := decide (1 ≤ xs.length) && decide (xs.length ≤ 20) && decide (xs[0]? = some (-1))
/-- The list is a tree of classes. -/
def treeB (xs : List Int) : Bool := headT xs && okT10 xs xs.length
theorem tree_short {xs : List Int} (h : xs.length = 0) : treeB xs = false := by unfold treeB headT; rw [h]; rfl
theorem tree_long {xs : List Int} (h : 20 < xs.length) : treeB xs = false := by unfold treeB headT; rw [decide_eq_false (show ¬ xs.length ≤ 20 by omega)]; simp
theorem tree_head {xs : List Int} {x : Int} (h : xs[0]? = some x) (hx : x ≠ -1) : treeB xs = false := by
  unfold treeB headT; rw [h, decide_eq_false (show ¬ some x = some (-1) by intro e; exact hx (Option.some.inj e))]; simp
theorem tree_bad {xs : List Int} (h : okT10 xs xs.length = false) : treeB xs = false := by unfold treeB; rw [h, Bool.and_false]
theorem tree_yes {xs : List Int} (h1 : 1 ≤ xs.length) (h2 : xs.length ≤ 20) (h3 : xs[0]? = some (-1)) (h4 : okT10 xs xs.length = true) : treeB xs = true := by
  unfold treeB headT; rw [h4, h3, decide_eq_true h1, decide_eq_true h2]; rfl
structure Tree (xs : List Int) : Prop where
  pos : 0 < xs.length
  le : xs.length ≤ 20
  root : xs[0]? = some (-1)
  par : ∀ (k : Nat) x, 0 < k → xs[k]? = some x → 0 ≤ x ∧ x < (k : Int)
theorem tree_of {xs : List Int} (h : treeB xs = true) : Tree xs := by
  unfold treeB headT at h
  simp only [Bool.and_eq_true, decide_eq_true_eq] at h
  obtain ⟨⟨⟨h1, h2⟩, h3⟩, h4⟩ := h
  refine ⟨by omega, h2, h3, fun k x hk hx => ?_⟩
  have hl := (List.getElem?_eq_some_iff.1 hx).1
  have := List.all_eq_true.1 h4 k (List.mem_range.2 hl)
  rw [List.getD_eq_getElem?_getD, hx] at this
  simp at this
  omega
theorem tree_is {xs : List Int} (h : Tree xs) : treeB xs = true := by
  refine tree_yes h.pos h.le h.root ?_
  unfold okT10
  rw [List.all_eq_true]
  intro k hk
  have hk := List.mem_range.1 hk
  rcases Nat.eq_zero_or_pos k with rfl | h0
  · rfl
  · have := h.par k _ h0 (List.getElem?_eq_getElem hk)
    rw [List.getD_eq_getElem?_getD, List.getElem?_eq_getElem hk]
    simp
    omega
theorem Tree.at_ {xs : List Int} (h : Tree xs) {k : Nat} (hk : k < xs.length) : ∃ p, xs[k]? = some p ∧ (p = -1 ∨ ∃ q : Nat, p = q ∧ q < k) := by
  refine ⟨xs[k], List.getElem?_eq_getElem hk, ?_⟩
  rcases Nat.eq_zero_or_pos k with rfl | h0
  · have := h.root
    rw [List.getElem?_eq_getElem hk] at this
    exact .inl (Option.some.inj this)
  · have := h.par k _ h0 (List.getElem?_eq_getElem hk)
    exact .inr ⟨xs[k].toNat, by omega, by omega⟩

/-- The way up from a class. -/
def upN (xs : List Int) (k : Nat) : List Int :=
  (k : Int) :: (if h : 0 ≤ xs.getD k (-1) ∧ xs.getD k (-1) < (k : Int) then upN xs (xs.getD k (-1)).toNat else [])
termination_by k
decreasing_by omega
def upF (xs : List Int) (c : Int) : List Int := if c < 0 then [] else upN xs c.toNat
theorem upF_neg (xs : List Int) {c : Int} (h : c < 0) : upF xs c = [] := if_pos h
theorem upF_cons {xs : List Int} (hT : Tree xs) {k : Nat} {p : Int} (hp : xs[k]? = some p) : upF xs (k : Int) = (k : Int) :: upF xs p := by
  have e : xs.getD k (-1) = p := by rw [List.getD_eq_getElem?_getD, hp]; rfl
  rw [upF, if_neg (by omega), Int.toNat_natCast, upN, e]
  congr 1
  rcases Nat.eq_zero_or_pos k with rfl | hk
  · have e2 : p = -1 := by have := hT.root; rw [hp] at this; exact Option.some.inj this
    subst e2
    rw [dif_neg (by omega), upF_neg _ (by omega)]
  · have h2 := hT.par k p hk hp
    rw [dif_pos h2, upF, if_neg (by omega)]
theorem up_ind {xs : List Int} (hT : Tree xs) {P : Nat → Prop} (h0 : ∀ k, k < xs.length → xs[k]? = some (-1) → P k) (h1 : ∀ (k q : Nat), k < xs.length → xs[k]? = some (q : Int) → q < k → P q → P k) : ∀ k, k < xs.length → P k := by
  intro k
  induction k using Nat.strongRecOn with
  | ind k ih =>
    intro hk
    obtain ⟨p, hp, rfl | ⟨q, rfl, hq⟩⟩ := hT.at_ hk
    · exact h0 k hk hp
    · exact h1 k q hk hp hq (ih q hq (by omega))
theorem upF_mem {xs : List Int} (hT : Tree xs) : ∀ k, k < xs.length → ∀ x ∈ upF xs (k : Int), 0 ≤ x ∧ x ≤ (k : Int) := by
  refine up_ind hT (fun k hk hp x hx => ?_) (fun k q hk hp hq ih x hx => ?_)
  · rw [upF_cons hT hp, upF_neg xs (by omega), List.mem_singleton] at hx; omega
  · rw [upF_cons hT hp, List.mem_cons] at hx
    rcases hx with rfl | hx
    · omega
    · have := ih x hx; omega
theorem upF_desc {xs : List Int} (hT : Tree xs) : ∀ k, k < xs.length → (upF xs (k : Int)).Pairwise fun a b => b < a := by
  refine up_ind hT (fun k hk hp => ?_) (fun k q hk hp hq ih => ?_)
  · rw [upF_cons hT hp, upF_neg xs (by omega)]; simp
  · rw [upF_cons hT hp, List.pairwise_cons]
    exact ⟨fun x hx => by have := upF_mem hT q (by omega) x hx; omega, ih⟩
theorem upF_zero {xs : List Int} (hT : Tree xs) : ∀ k, k < xs.length → (0 : Int) ∈ upF xs (k : Int) := by
  refine up_ind hT (fun k hk hp => ?_) (fun k q hk hp hq ih => ?_)
  · have h0 : k = 0 := by
      rcases Nat.eq_zero_or_pos k with rfl | h
      · rfl
      · have := hT.par k _ h hp; omega
    subst h0
    rw [upF_cons hT hp]; simp
  · rw [upF_cons hT hp]; exact List.mem_cons_of_mem _ ih
theorem upF_len {xs : List Int} (hT : Tree xs) : ∀ k, k < xs.length → 1 ≤ (upF xs (k : Int)).length ∧ (upF xs (k : Int)).length ≤ k + 1 := by
  refine up_ind hT (fun k hk hp => ?_) (fun k q hk hp hq ih => ?_)
  · rw [upF_cons hT hp, upF_neg xs (by omega)]; simp
  · rw [upF_cons hT hp, List.length_cons]; omega
theorem upF_self {xs : List Int} (hT : Tree xs) {k : Nat} (hk : k < xs.length) : (k : Int) ∈ upF xs (k : Int) := by
  rw [upF_cons hT (List.getElem?_eq_getElem hk)]; simp
theorem upF_trans {xs : List Int} (hT : Tree xs) {c : Nat} : ∀ k, k < xs.length → (c : Int) ∈ upF xs (k : Int) → ∀ x ∈ upF xs (c : Int), x ∈ upF xs (k : Int) := by
  refine up_ind hT (fun k hk hp hc x hx => ?_) (fun k q hk hp hq ih hc x hx => ?_)
  · rw [upF_cons hT hp, upF_neg xs (by omega), List.mem_singleton] at hc
    obtain rfl : c = k := by omega
    exact hx
  · rw [upF_cons hT hp, List.mem_cons] at hc
    rcases hc with hc | hc
    · obtain rfl : c = k := by omega
      exact hx
    · rw [upF_cons hT hp]; exact List.mem_cons_of_mem _ (ih hc x hx)
theorem upF_idx {xs : List Int} (hT : Tree xs) {c : Nat} : ∀ k, k < xs.length → (c : Int) ∈ upF xs (k : Int) → (upF xs (k : Int)).idxOf (c : Int) + (upF xs (c : Int)).length = (upF xs (k : Int)).length := by
  refine up_ind hT (fun k hk hp hc => ?_) (fun k q hk hp hq ih hc => ?_)
  · rw [upF_cons hT hp, upF_neg xs (by omega), List.mem_singleton] at hc
    obtain rfl : c = k := by omega
    rw [upF_cons hT hp]; simp
  · rw [upF_cons hT hp, List.mem_cons] at hc
    by_cases he : c = k
    · subst he; rw [upF_cons hT hp]; simp
    · have h2 := ih (by rcases hc with hc | hc; omega; exact hc)
      rw [upF_cons hT hp, List.idxOf_cons, List.length_cons, ← h2]
      rw [show ((k : Int) == (c : Int)) = false by rw [beq_eq_false_iff_ne]; omega]
      simp; omega

theorem asc_unique (lt : Int → Int → Prop) (irr : ∀ a, ¬ lt a a) (tr : ∀ a b c, lt a b → lt b c → lt a c) : ∀ (xs ys : List Int), xs.Pairwise lt → ys.Pairwise lt → (∀ x, x ∈ xs ↔ x ∈ ys) → xs = ys
  | [], [], _, _, _ => rfl
  | [], y :: ys, _, _, h => by have := (h y).2 (by simp); simp at this
  | x :: xs, [], _, _, h => by have := (h x).1 (by simp); simp at this
  | x :: xs, y :: ys, hx, hy, h => by
    rw [List.pairwise_cons] at hx hy
    have e : x = y := by
      rcases List.mem_cons.1 ((h x).1 (by simp)) with h1 | h1
      · exact h1
      · rcases List.mem_cons.1 ((h y).2 (by simp)) with h2 | h2
        · exact h2.symm
        · exact absurd (tr _ _ _ (hy.1 x h1) (hx.1 y h2)) (irr y)
    subst e
    congr 1
    refine asc_unique lt irr tr xs ys hx.2 hy.2 fun z => ⟨fun hz => ?_, fun hz => ?_⟩
    · rcases List.mem_cons.1 ((h z).1 (List.mem_cons_of_mem _ hz)) with h1 | h1
      · subst h1; exact absurd (hx.1 z hz) (irr z)
      · exact h1
    · rcases List.mem_cons.1 ((h z).2 (List.mem_cons_of_mem _ hz)) with h1 | h1
      · subst h1; exact absurd (hy.1 z hz) (irr z)
      · exact h1

/-- The first class on the way up that lies in a list. -/
def comF (xs ks : List Int) (c : Int) : Int := ((upF xs c).find? fun x => decide (x ∈ ks)).getD 0
theorem com_stop {xs : List Int} (hT : Tree xs) {ks : List Int} {k : Nat} (hk : k < xs.length) (h : (k : Int) ∈ ks) : comF xs ks (k : Int) = (k : Int) := by
  unfold comF; rw [upF_cons hT (List.getElem?_eq_getElem hk), List.find?_cons_of_pos (by rw [decide_eq_true_eq]; exact h)]; rfl
theorem com_step10 {xs : List Int} (hT : Tree xs) {ks : List Int} {k : Nat} {p : Int} (hp : xs[k]? = some p) (h : (k : Int) ∉ ks) : comF xs ks (k : Int) = comF xs ks p := by
  unfold comF; rw [upF_cons hT hp, List.find?_cons_of_neg (by rw [decide_eq_true_eq]; exact h)]
def comZ (xs : List Int) (a b : Int) : Int := comF xs (upF xs b) a
theorem com_filter (xs ks : List Int) (c : Int) : comF xs ks c = (((upF xs c).filter fun x => decide (x ∈ ks)).head?).getD 0 := by
  unfold comF; rw [List.head?_filter]
theorem com_sym {xs : List Int} (hT : Tree xs) {a b : Nat} (ha : a < xs.length) (hb : b < xs.length) : comZ xs (a : Int) (b : Int) = comZ xs (b : Int) (a : Int) := by
  unfold comZ
  rw [com_filter, com_filter]
  congr 2
  refine asc_unique (fun a b => b < a) (fun a => by omega) (fun a b c h k => by omega) _ _ ((upF_desc hT a ha).sublist List.filter_sublist) ((upF_desc hT b hb).sublist List.filter_sublist) (fun x => ?_)
  rw [List.mem_filter, List.mem_filter, decide_eq_true_eq, decide_eq_true_eq]
  exact ⟨fun h => ⟨h.2, h.1⟩, fun h => ⟨h.2, h.1⟩⟩
theorem com_mem {xs : List Int} (hT : Tree xs) {a b : Nat} (ha : a < xs.length) (hb : b < xs.length) : ∃ c : Nat, comZ xs (a : Int) (b : Int) = c ∧ c < xs.length ∧ (c : Int) ∈ upF xs (a : Int) ∧ (c : Int) ∈ upF xs (b : Int) := by
  have hs : ((upF xs (a : Int)).find? fun x => decide (x ∈ upF xs (b : Int))).isSome := by
    rw [List.find?_isSome]
    exact ⟨0, upF_zero hT a ha, by rw [decide_eq_true_eq]; exact upF_zero hT b hb⟩
  obtain ⟨x, hx⟩ := Option.isSome_iff_exists.1 hs
  have h1 := List.mem_of_find?_eq_some hx
  have h2 := List.find?_some hx
  rw [decide_eq_true_eq] at h2
  have h3 := upF_mem hT a ha x h1
  refine ⟨x.toNat, ?_, by omega, ?_, ?_⟩
  · unfold comZ comF; rw [hx]; simp; omega
  · rw [show ((x.toNat : Nat) : Int) = x by omega]; exact h1
  · rw [show ((x.toNat : Nat) : Int) = x by omega]; exact h2
/-- The distance of two classes. -/
def disZ (xs : List Int) (a b : Int) : Int := ((upF xs a).length : Int) + (upF xs b).length - 2 * (upF xs (comZ xs a b)).length
theorem com_left {xs : List Int} (hT : Tree xs) {a c : Nat} (ha : a < xs.length) (hc : c < xs.length) (h : (c : Int) ∈ upF xs (a : Int)) : comZ xs (a : Int) (c : Int) = c := by
  rw [com_sym hT ha hc]
  unfold comZ
  exact com_stop hT hc h
theorem dis_sum {xs : List Int} (hT : Tree xs) {a b : Nat} (ha : a < xs.length) (hb : b < xs.length) : disZ xs a (comZ xs a b) + disZ xs (comZ xs a b) b = disZ xs a b := by
  obtain ⟨c, h1, h2, h3, h4⟩ := com_mem hT ha hb
  rw [h1]
  unfold disZ
  rw [h1, com_left hT ha h2 h3, com_sym hT h2 hb, com_left hT hb h2 h4]
  omega

theorem way_child {xs : List Int} (hT : Tree xs) {c : Nat} : ∀ e, e < xs.length → (c : Int) ∈ upF xs (e : Int) → e ≠ c → ∃ d : Nat, d < xs.length ∧ xs[d]? = some (c : Int) ∧ (d : Int) ∈ upF xs (e : Int) := by
  refine up_ind hT (fun k hk hp hc hne => ?_) (fun k q hk hp hq ih hc hne => ?_)
  · rw [upF_cons hT hp, upF_neg xs (by omega), List.mem_singleton] at hc; omega
  · rw [upF_cons hT hp, List.mem_cons] at hc
    by_cases he : q = c
    · subst he; exact ⟨k, hk, hp, upF_self hT hk⟩
    · obtain ⟨d, h1, h2, h3⟩ := ih (by rcases hc with hc | hc; omega; exact hc) he
      exact ⟨d, h1, h2, by rw [upF_cons hT hp]; exact List.mem_cons_of_mem _ h3⟩
theorem kid_gt {xs : List Int} (hT : Tree xs) {c d : Nat} (h : xs[d]? = some (c : Int)) : c < d := by
  rcases Nat.eq_zero_or_pos d with rfl | h0
  · have := hT.root; rw [h] at this; have := Option.some.inj this; omega
  · have := hT.par d _ h0 h; omega
theorem child_unique {xs : List Int} (hT : Tree xs) {c d d' : Nat} (hd : xs[d]? = some (c : Int)) (hd' : xs[d']? = some (c : Int)) : ∀ e, e < xs.length → (d : Int) ∈ upF xs (e : Int) → (d' : Int) ∈ upF xs (e : Int) → d = d' := by
  have hg := kid_gt hT hd
  have hg' := kid_gt hT hd'
  refine up_ind hT (fun k hk hp h1 h2 => ?_) (fun k q hk hp hq ih h1 h2 => ?_)
  · rw [upF_cons hT hp, upF_neg xs (by omega), List.mem_singleton] at h1 h2; omega
  · rw [upF_cons hT hp, List.mem_cons] at h1 h2
    by_cases e1 : d = k
    · subst e1
      rw [hp] at hd
      have e3 : q = c := by have := Option.some.inj hd; omega
      subst e3
      by_cases e2 : d' = d
      · exact e2.symm
      · have h3 : (d' : Int) ∈ upF xs (q : Int) := by rcases h2 with h2 | h2; omega; exact h2
        have := upF_mem hT q (by omega) _ h3
        omega
    · by_cases e2 : d' = k
      · subst e2
        rw [hp] at hd'
        have e3 : q = c := by have := Option.some.inj hd'; omega
        subst e3
        have h3 : (d : Int) ∈ upF xs (q : Int) := by rcases h1 with h1 | h1; omega; exact h1
        have := upF_mem hT q (by omega) _ h3
        omega
      · exact ih (by rcases h1 with h1 | h1; omega; exact h1) (by rcases h2 with h2 | h2; omega; exact h2)

/-- The walk down from a class. -/
def dfs (xs : List Int) : Nat → Nat → List Int
  | 0, c => [(c : Int)]
  | f + 1, c => (c : Int) :: ((List.range xs.length).flatMap fun d => if xs[d]? = some (c : Int) then dfs xs f d else [])
def kidsU (xs : List Int) (f c k : Nat) : List Int := (List.range k).flatMap fun d => if xs[d]? = some (c : Int) then dfs xs f d else []
theorem dfs_succ (xs : List Int) (f c : Nat) : dfs xs (f + 1) c = (c : Int) :: kidsU xs f c xs.length := rfl
theorem kids_zero (xs : List Int) (f c : Nat) : kidsU xs f c 0 = [] := rfl
theorem kids_yes {xs : List Int} {f c k : Nat} (h : xs[k]? = some (c : Int)) : kidsU xs f c (k + 1) = kidsU xs f c k ++ dfs xs f k := by
  unfold kidsU; rw [List.range_succ, List.flatMap_append, List.flatMap_cons, List.flatMap_nil, if_pos h, List.append_nil]
theorem kids_no {xs : List Int} {f c k : Nat} {x : Int} (h : xs[k]? = some x) (hx : x ≠ c) : kidsU xs f c (k + 1) = kidsU xs f c k := by
  unfold kidsU; rw [List.range_succ, List.flatMap_append, List.flatMap_cons, List.flatMap_nil, if_neg (by rw [h]; intro e; exact hx (Option.some.inj e)), List.append_nil, List.append_nil]
theorem dfs_mem {xs : List Int} (hT : Tree xs) : ∀ (f c : Nat), xs.length ≤ f + c → c < xs.length → ∀ x, x ∈ dfs xs f c ↔ ∃ e : Nat, x = e ∧ e < xs.length ∧ (c : Int) ∈ upF xs (e : Int) := by
  intro f
  induction f with
  | zero => intro c h1 h2; omega
  | succ f ih =>
    intro c h1 h2 x
    rw [dfs_succ, List.mem_cons]
    unfold kidsU
    rw [List.mem_flatMap]
    constructor
    · rintro (rfl | ⟨d, hd, hx⟩)
      · exact ⟨c, rfl, h2, upF_self hT h2⟩
      · have hd := List.mem_range.1 hd
        by_cases hk : xs[d]? = some (c : Int)
        · rw [if_pos hk] at hx
          have hg := kid_gt hT hk
          obtain ⟨e, rfl, he, hm⟩ := (ih d (by omega) hd x).1 hx
          refine ⟨e, rfl, he, upF_trans hT e he hm _ ?_⟩
          rw [upF_cons hT hk]
          exact List.mem_cons_of_mem _ (upF_self hT h2)
        · rw [if_neg hk] at hx; simp at hx
    · rintro ⟨e, rfl, he, hm⟩
      by_cases hc : e = c
      · exact .inl (by rw [hc])
      · obtain ⟨d, hd, hk, hde⟩ := way_child hT e he hm hc
        refine .inr ⟨d, List.mem_range.2 hd, ?_⟩
        rw [if_pos hk]
        have hg := kid_gt hT hk
        exact (ih d (by omega) hd _).2 ⟨e, rfl, he, hde⟩
theorem dfs_nodup {xs : List Int} (hT : Tree xs) : ∀ (f c : Nat), xs.length ≤ f + c → c < xs.length → (dfs xs f c).Nodup := by
  intro f
  induction f with
  | zero => intro c h1 h2; omega
  | succ f ih =>
    intro c h1 h2
    rw [dfs_succ]
    unfold List.Nodup
    rw [List.pairwise_cons]
    unfold kidsU
    constructor
    · intro x hx
      rw [List.mem_flatMap] at hx
      obtain ⟨d, hd, hx⟩ := hx
      have hd := List.mem_range.1 hd
      by_cases hk : xs[d]? = some (c : Int)
      · rw [if_pos hk] at hx
        have hg := kid_gt hT hk
        obtain ⟨e, rfl, he, hm⟩ := (dfs_mem hT f d (by omega) hd x).1 hx
        have := upF_mem hT e he _ hm
        omega
      · rw [if_neg hk] at hx; simp at hx
    · rw [List.pairwise_flatMap]
      refine ⟨fun d hd => ?_, ?_⟩
      · have hd := List.mem_range.1 hd
        by_cases hk : xs[d]? = some (c : Int)
        · rw [if_pos hk]
          have hg := kid_gt hT hk
          exact ih d (by omega) hd
        · rw [if_neg hk]; exact List.Pairwise.nil
      · refine (List.pairwise_lt_range).imp_of_mem fun {a b} ha hb hab x hx y hy => ?_
        have ha := List.mem_range.1 ha
        have hb := List.mem_range.1 hb
        by_cases hk : xs[a]? = some (c : Int)
        · by_cases hk2 : xs[b]? = some (c : Int)
          · rw [if_pos hk] at hx
            rw [if_pos hk2] at hy
            have hg := kid_gt hT hk
            have hg2 := kid_gt hT hk2
            obtain ⟨e, rfl, he, hm⟩ := (dfs_mem hT f a (by omega) ha x).1 hx
            obtain ⟨e2, rfl, he2, hm2⟩ := (dfs_mem hT f b (by omega) hb y).1 hy
            intro e3
            obtain rfl : e = e2 := by omega
            have := child_unique hT hk hk2 e he hm hm2
            omega
          · rw [if_neg hk2] at hy; simp at hy
        · rw [if_neg hk] at hx; simp at hx

/-- The classes below a class, ascending. -/
def subU (xs : List Int) (a : Int) (k : Nat) : List Int := ((List.range k).filter fun (i : Nat) => decide (a ∈ upF xs (i : Int))).map fun i => ((i : Nat) : Int)
theorem sub_zero (xs : List Int) (a : Int) : subU xs a 0 = [] := rfl
theorem sub_yes {xs : List Int} {a : Int} {k : Nat} (h : a ∈ upF xs (k : Int)) : subU xs a (k + 1) = subU xs a k ++ [(k : Int)] := by
  unfold subU; rw [List.range_succ, List.filter_append, List.filter_cons_of_pos (by rw [decide_eq_true_eq]; exact h), List.filter_nil, List.map_append]; rfl
theorem sub_no {xs : List Int} {a : Int} {k : Nat} (h : a ∉ upF xs (k : Int)) : subU xs a (k + 1) = subU xs a k := by
  unfold subU; rw [List.range_succ, List.filter_append, List.filter_cons_of_neg (by rw [decide_eq_true_eq]; exact h), List.filter_nil, List.append_nil]
theorem sub_len (xs : List Int) (a : Int) (k : Nat) : (subU xs a k).length ≤ k := by
  unfold subU; rw [List.length_map]; exact Nat.le_trans (List.length_filter_le _ _) (by rw [List.length_range]; exact Nat.le_refl _)
theorem sub_mem (xs : List Int) (a : Int) (k : Nat) (x : Int) : x ∈ subU xs a k ↔ ∃ e : Nat, x = e ∧ e < k ∧ a ∈ upF xs (e : Int) := by
  unfold subU
  rw [List.mem_map]
  constructor
  · rintro ⟨e, he, rfl⟩
    rw [List.mem_filter, decide_eq_true_eq] at he
    exact ⟨e, rfl, List.mem_range.1 he.1, he.2⟩
  · rintro ⟨e, rfl, he, h⟩
    exact ⟨e, by rw [List.mem_filter, decide_eq_true_eq]; exact ⟨List.mem_range.2 he, h⟩, rfl⟩
theorem sub_asc (xs : List Int) (a : Int) (k : Nat) : (subU xs a k).Pairwise fun x y => x < y := by
  unfold subU
  rw [List.pairwise_map]
  exact ((List.pairwise_lt_range).sublist List.filter_sublist).imp fun h => by omega
theorem dfs_sub {xs : List Int} (hT : Tree xs) {c : Nat} (hc : c < xs.length) : (dfs xs xs.length c).mergeSort (fun x y => decide (x ≤ y)) = subU xs (c : Int) xs.length := by
  have hp : ((dfs xs xs.length c).mergeSort fun x y => decide (x ≤ y)).Pairwise fun a b : Int => a ≤ b := by
    have := List.pairwise_mergeSort (le := fun (x y : Int) => decide (x ≤ y)) (fun a b c h1 h2 => by simp only [decide_eq_true_eq] at *; omega) (fun a b => by simp only [Bool.or_eq_true, decide_eq_true_eq]; omega) (dfs xs xs.length c)
    exact this.imp fun h => by simpa using h
  have hn : ((dfs xs xs.length c).mergeSort fun x y => decide (x ≤ y)).Nodup := (List.mergeSort_perm _ _).nodup_iff.2 (dfs_nodup hT _ _ (by omega) hc)
  refine asc_unique (fun a b => a < b) (fun a => by omega) (fun a b c h k => by omega) _ _ ?_ (sub_asc xs _ _) (fun x => ?_)
  · refine (hp.and hn).imp fun {a b} h => ?_
    have h1 := h.1
    have h2 : a ≠ b := h.2
    omega
  · rw [List.mem_mergeSort, dfs_mem hT _ _ (by omega) hc, sub_mem]
theorem dfs_len {xs : List Int} (hT : Tree xs) {c : Nat} (hc : c < xs.length) : (dfs xs xs.length c).length ≤ xs.length := by
  have h := congrArg List.length (dfs_sub hT hc)
  rw [List.length_mergeSort] at h
  have := sub_len xs c xs.length
  omega

/-- The leaves, ascending. -/
def leafU (xs : List Int) (k : Nat) : List Int := ((List.range k).filter fun (i : Nat) => decide ((i : Int) ∉ xs)).map fun i => ((i : Nat) : Int)
theorem leaf_yes {xs : List Int} {k : Nat} (h : (k : Int) ∉ xs) : leafU xs (k + 1) = leafU xs k ++ [(k : Int)] := by
  unfold leafU; rw [List.range_succ, List.filter_append, List.filter_cons_of_pos (by rw [decide_eq_true_eq]; exact h), List.filter_nil, List.map_append]; rfl
theorem leaf_no {xs : List Int} {k : Nat} (h : (k : Int) ∈ xs) : leafU xs (k + 1) = leafU xs k := by
  unfold leafU; rw [List.range_succ, List.filter_append, List.filter_cons_of_neg (by rw [decide_eq_true_eq]; exact fun h2 => h2 h), List.filter_nil, List.append_nil]
theorem leaf_len (xs : List Int) (k : Nat) : (leafU xs k).length ≤ k := by
  unfold leafU; rw [List.length_map]; exact Nat.le_trans (List.length_filter_le _ _) (by rw [List.length_range]; exact Nat.le_refl _)
theorem leaf_mem (xs : List Int) (k : Nat) (x : Int) : x ∈ leafU xs k ↔ ∃ e : Nat, x = e ∧ e < k ∧ (e : Int) ∉ xs := by
  unfold leafU
  rw [List.mem_map]
  constructor
  · rintro ⟨e, he, rfl⟩
    rw [List.mem_filter, decide_eq_true_eq] at he
    exact ⟨e, rfl, List.mem_range.1 he.1, he.2⟩
  · rintro ⟨e, rfl, he, h⟩
    exact ⟨e, by rw [List.mem_filter, decide_eq_true_eq]; exact ⟨List.mem_range.2 he, h⟩, rfl⟩

/-- The code of a tree and classes. -/
def inT10 (xs : List Int) (a : Int) : Bool := decide (0 ≤ a) && decide (a ≤ (xs.length : Int) - 1)
def clsC (xs : List Int) (as9 : List Int) : Int := if treeB xs = true then (if as9.all (inT10 xs) = true then 0 else 2) else 1
theorem clsC_tree {xs as9 : List Int} (h : treeB xs = false) : clsC xs as9 = 1 := by unfold clsC; rw [if_neg (by rw [h]; decide)]
theorem clsC_range {xs as9 : List Int} (h : treeB xs = true) (h2 : as9.all (inT10 xs) = false) : clsC xs as9 = 2 := by unfold clsC; rw [if_pos h, if_neg (by rw [h2]; decide)]
theorem clsC_none {xs as9 : List Int} (h : treeB xs = true) (h2 : as9.all (inT10 xs) = true) : clsC xs as9 = 0 := by unfold clsC; rw [if_pos h, if_pos h2]
theorem clsC_zero {xs as9 : List Int} (h : clsC xs as9 = 0) : treeB xs = true ∧ ∀ a ∈ as9, ∃ k : Nat, a = k ∧ k < xs.length := by
  unfold clsC at h
  by_cases h1 : treeB xs = true
  · rw [if_pos h1] at h
    by_cases h2 : as9.all (inT10 xs) = true
    · refine ⟨h1, fun a ha => ?_⟩
      have := List.all_eq_true.1 h2 a ha
      unfold inT10 at this
      simp only [Bool.and_eq_true, decide_eq_true_eq] at this
      exact ⟨a.toNat, by omega, by omega⟩
    · rw [if_neg h2] at h; omega
  · rw [if_neg h1] at h; omega
theorem clsC_one {xs : List Int} {a : Int} (h : clsC xs [a] = 0) : Tree xs ∧ ∃ k : Nat, a = k ∧ k < xs.length := ⟨tree_of (clsC_zero h).1, (clsC_zero h).2 a (by simp)⟩
theorem clsC_two {xs : List Int} {a b : Int} (h : clsC xs [a, b] = 0) : Tree xs ∧ (∃ k : Nat, a = k ∧ k < xs.length) ∧ ∃ k : Nat, b = k ∧ k < xs.length := ⟨tree_of (clsC_zero h).1, (clsC_zero h).2 a (by simp), (clsC_zero h).2 b (by simp)⟩
theorem clsC_nat {xs : List Int} {as9 : List Int} (hT : Tree xs) (h : ∀ a ∈ as9, ∃ k : Nat, a = k ∧ k < xs.length) : clsC xs as9 = 0 := by
  refine clsC_none (tree_is hT) ?_
  rw [List.all_eq_true]
  intro a ha
  obtain ⟨k, rfl, hk⟩ := h a ha
  unfold inT10
  simp only [Bool.and_eq_true, decide_eq_true_eq]
  omega
end Go.Proofs.YtglmibmjbignbaaGreatDoor
