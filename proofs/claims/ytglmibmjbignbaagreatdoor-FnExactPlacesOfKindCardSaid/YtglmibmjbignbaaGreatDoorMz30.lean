/-
  The contract of slices.Sort at a row of numbers of one's own.
-/
import Derived.Test.YtglmibmjbignbaaGreatDoorShelf10
import Derived.Test.YtglmibmjbignbaaGreatDoorIntRow
import Derived.Sort.OwnSortedInts
import Derived.Test.YtglmibmjbignbaaGreatDoorMz1
import Derived.OwnWalk
import Derived.Laws.OwnMore
import Derived.Laws.Rows
import Derived.Deep.Draws
import Derived.Test.YtglmibmjbignbaaGreatDoorMz29
namespace Go.Proofs.YtglmibmjbignbaaGreatDoor
section
set_option linter.unusedVariables false
open Go.RowKit Go.Sort

def Srt10 (A : Option Addr) (n c base : Nat) (xs : List Int) (w : World) (e : Ending) (w' : World) : Prop :=
  e = .returned (.tuple #[]) ∧ w'.ownsRow base 2 1 (.slice A n c) n (intV (xs.mergeSort fun x y => decide (x ≤ y))) ∧ w.grownBy w' (Value.slice A n c).ownBlock
theorem tSort10 (A : Option Addr) (n c base : Nat) (xs : List Int) (w : World) (hbig : n ≤ 1048576) (h : w.ownsRow base 2 1 (.slice A n c) n (intV xs)) :
    Calls Tryz.prog 144 #[.slice A n c] w (Srt10 A n c base xs w) := by
  have hl : n = xs.length := by have := h.1; rw [intV_len] at this; omega
  rcases Nat.eq_zero_or_pos n with rfl | hp
  · have h1 := AnyG.slices_Sort_int_none Tryz.sortI A c w
    change Calls Tryz.prog 144 _ _ _ at h1
    refine h1.mono ?_
    rintro e w' ⟨rfl, rfl⟩
    have hx2 : xs = [] := List.eq_nil_of_length_eq_zero hl.symm
    subst hx2
    exact ⟨rfl, by rw [show (([] : List Int).mergeSort fun x y => decide (x ≤ y)) = [] from by simp]; exact h, World.grownBy.refl _ _⟩
  · rcases h.2 with ⟨_, h0⟩ | ⟨g, cap, cur, hv, h1, h2, h3, h4, h5, h6⟩
    · omega
    cases hv
    rw [Nat.mul_one] at h6
    have hH := holds_of_blockI (ss := xs) h2 (by rw [← hl]; exact h6)
    have k := AnyG.slices_Sort_int Tryz.sortI g 0 c xs w hH (Array.getElem?_eq_some_iff.1 h2).1 (by omega)
    rw [← hl] at k
    change Calls Tryz.prog 144 _ _ _ at k
    refine k.mono ?_
    rintro e w' ⟨rfl, q, os, rfl⟩
    have ho := ownsRow_sortedI (n := q) (os := os) (ss := xs) (ts := xs.mergeSort fun x y => decide (x ≤ y)) (List.length_mergeSort ..) h1 h2 (by omega) h4 h5
    rw [← hl] at ho
    exact ⟨rfl, ho, grownBy_sortedI _⟩
end
section
set_option linter.unusedVariables false

def lcsNext (e : Nat → Bool) (prev : Nat → Int) : Nat → Int
  | 0 => 0
  | j + 1 => if e j then prev j + 1 else max (prev (j + 1)) (lcsNext e prev j)
def lcsR (e : Nat → Nat → Bool) : Nat → Nat → Int
  | 0 => fun _ => 0
  | i + 1 => lcsNext (e i) (lcsR e i)
theorem lcsR_zero (e : Nat → Nat → Bool) (j : Nat) : lcsR e 0 j = 0 := rfl
theorem lcsR_col (e : Nat → Nat → Bool) : ∀ i, lcsR e i 0 = 0
  | 0 => rfl
  | _ + 1 => rfl
theorem lcsR_hit (e : Nat → Nat → Bool) (i j : Nat) (h : e i j = true) : lcsR e (i + 1) (j + 1) = lcsR e i j + 1 := by
  show lcsNext (e i) (lcsR e i) (j + 1) = _
  rw [lcsNext, if_pos h]
theorem lcsR_miss (e : Nat → Nat → Bool) (i j : Nat) (h : e i j = false) : lcsR e (i + 1) (j + 1) = max (lcsR e i (j + 1)) (lcsR e (i + 1) j) := by
  show lcsNext (e i) (lcsR e i) (j + 1) = _
  rw [lcsNext, if_neg (by simp [h])]; rfl
theorem lcsNext_bd (e : Nat → Bool) (prev : Nat → Int) (n : Int) (hp : ∀ j, 0 ≤ prev j ∧ prev j ≤ n) : ∀ j, 0 ≤ lcsNext e prev j ∧ lcsNext e prev j ≤ n + 1
  | 0 => by have := hp 0; simp [lcsNext]; omega
  | j + 1 => by
    have h1 := hp j
    have h2 := hp (j + 1)
    have h3 := lcsNext_bd e prev n hp j
    simp only [lcsNext]
    split <;> omega
theorem lcsR_bd (e : Nat → Nat → Bool) : ∀ i j, 0 ≤ lcsR e i j ∧ lcsR e i j ≤ i
  | 0, j => by simp [lcsR_zero]
  | i + 1, j => by
    have := lcsNext_bd (e i) (lcsR e i) i (lcsR_bd e i) j
    simpa [lcsR] using this

def disNext (e : Nat → Bool) (prev : Nat → Int) : Nat → Int
  | 0 => prev 0 + 1
  | j + 1 => min (prev j + if e j then 0 else 1) (min (prev (j + 1) + 1) (disNext e prev j + 1))
def disR (e : Nat → Nat → Bool) : Nat → Nat → Int
  | 0 => fun j => j
  | i + 1 => disNext (e i) (disR e i)
theorem disR_zero (e : Nat → Nat → Bool) (j : Nat) : disR e 0 j = j := rfl
theorem disR_col (e : Nat → Nat → Bool) : ∀ i, disR e i 0 = i
  | 0 => rfl
  | i + 1 => by
    show disNext (e i) (disR e i) 0 = _
    rw [disNext, disR_col e i]; rfl
theorem disR_next (e : Nat → Nat → Bool) (i j : Nat) : disR e (i + 1) (j + 1) = min (disR e i j + if e i j then 0 else 1) (min (disR e i (j + 1) + 1) (disR e (i + 1) j + 1)) := rfl
theorem disR_bd (e : Nat → Nat → Bool) : ∀ i j, 0 ≤ disR e i j ∧ disR e i j ≤ i + j
  | 0, j => by simp [disR_zero]
  | i + 1, 0 => by rw [disR_col]; omega
  | i + 1, j + 1 => by
    have h1 := disR_bd e i j
    have h2 := disR_bd e i (j + 1)
    have h3 := disR_bd e (i + 1) j
    rw [disR_next]
    split <;> omega

/-- Whether letter i of a is letter j of b. -/
def same (a b : ByteArray) (i j : Nat) : Bool := decide (a.data.toList[i]? = b.data.toList[j]?)
theorem get_some (a : ByteArray) (i : Nat) (h : i < a.size) : a.data.toList[i]? = some a[i] := by
  rw [List.getElem?_eq_getElem (by simpa using h)]; rfl
theorem same_yes (a b : ByteArray) (i j : Nat) (hi : i < a.size) (hj : j < b.size) (h : a[i] = b[j]) : same a b i j = true := by
  unfold same; rw [get_some a i hi, get_some b j hj, h]; simp
theorem same_no (a b : ByteArray) (i j : Nat) (hi : i < a.size) (hj : j < b.size) (h : a[i] ≠ b[j]) : same a b i j = false := by
  unfold same; rw [get_some a i hi, get_some b j hj]; simp [h]
def lcs (a b : ByteArray) (i j : Nat) : Int := lcsR (same a b) i j
def dis (a b : ByteArray) (i j : Nat) : Int := disR (same a b) i j
theorem lcs_bd (a b : ByteArray) (i j : Nat) : 0 ≤ lcs a b i j ∧ lcs a b i j ≤ i := lcsR_bd _ i j
theorem dis_bd (a b : ByteArray) (i j : Nat) : 0 ≤ dis a b i j ∧ dis a b i j ≤ i + j := disR_bd _ i j
theorem beq_yes (a b : ByteArray) (i j : Nat) (hi : i < a.size) (hj : j < b.size) (h : a[i] = b[j]) : ((a[i].toNat : Int) == (b[j].toNat : Int)) = true := by rw [h]; simp
theorem beq_no (a b : ByteArray) (i j : Nat) (hi : i < a.size) (hj : j < b.size) (h : a[i] ≠ b[j]) : ((a[i].toNat : Int) == (b[j].toNat : Int)) = false := by
  rw [beq_eq_false_iff_ne]; intro hh; exact h (UInt8.toNat_inj.1 (by omega))

theorem bne_yes (a b : ByteArray) (i j : Nat) (hi : i < a.size) (hj : j < b.size) (h : a[i] = b[j]) : ((a[i].toNat : Int) != (b[j].toNat : Int)) = false := by rw [h]; simp
theorem bne_no (a b : ByteArray) (i j : Nat) (hi : i < a.size) (hj : j < b.size) (h : a[i] ≠ b[j]) : ((a[i].toNat : Int) != (b[j].toNat : Int)) = true := by
  rw [bne_iff_ne]; intro hh; exact h (UInt8.toNat_inj.1 (by omega))

/-- A table of 17 times 17 cells in one row, of which those in D hold f's values. -/
def TabOk (f : Nat → Nat → Int) (D : Nat → Nat → Prop) (cs : Array Value) : Prop :=
  cs.size = 289 ∧ ∀ i j, i ≤ 16 → j ≤ 16 → D i j → cs[i * 17 + j]? = some (.int .i64 (f i j))
theorem TabOk.set {f : Nat → Nat → Int} {D D' : Nat → Nat → Prop} {cs : Array Value} (h : TabOk f D cs) (i0 j0 : Nat) (hi : i0 ≤ 16) (hj : j0 ≤ 16) (v : Int) (hv : v = f i0 j0)
    (hD : ∀ i j, i ≤ 16 → j ≤ 16 → D' i j → D i j ∨ (i = i0 ∧ j = j0)) : TabOk f D' (cs.setIfInBounds (i0 * 17 + j0) (.int .i64 v)) := by
  refine ⟨by simp [h.1], fun i j h1 h2 h3 => ?_⟩
  by_cases he : i0 * 17 + j0 = i * 17 + j
  · have e1 : i = i0 := by omega
    have e2 : j = j0 := by omega
    subst e1; subst e2; subst hv
    rw [Array.getElem?_setIfInBounds_self_of_lt (by rw [h.1]; omega)]
  · rw [Array.getElem?_setIfInBounds_ne he]
    rcases hD i j h1 h2 h3 with hd | ⟨e1, e2⟩
    · exact h.2 i j h1 h2 hd
    · subst e1; subst e2; exact absurd rfl he
/-- Block g of the world is the table cs. -/
def TabAt (w : World) (g : Nat) (t : TypeId) (cs : Array Value) : Prop := w.heap[g]? = some (.cells cs t (0, 0))
theorem TabAt.lt {w : World} {g : Nat} {t : TypeId} {cs : Array Value} (h : TabAt w g t cs) : g < w.heap.size := (Array.getElem?_eq_some_iff.1 h).1
theorem TabAt.cell {w : World} {g : Nat} {t : TypeId} {cs : Array Value} (h : TabAt w g t cs) (i : Nat) : w.cell? ⟨g, i, none⟩ = cs[i]? := cell_of_row w g i cs t (0, 0) h
theorem TabAt.some {w : World} {g : Nat} {t : TypeId} {cs : Array Value} (h : TabAt w g t cs) {i : Nat} (hi : i < cs.size) : ∃ v, w.cell? ⟨g, i, none⟩ = some v :=
  ⟨cs[i], (h.cell i).trans (Array.getElem?_eq_getElem hi)⟩
theorem TabAt.frozen {w : World} {g : Nat} {t : TypeId} {cs : Array Value} (h : TabAt w g t cs) (i : Nat) : w.frozen? ⟨g, i, none⟩ = false := frozen_of_row w g i cs t h
theorem TabAt.dr {w : World} {g : Nat} {t : TypeId} {cs : Array Value} (h : TabAt w g t cs) (n : Nat) : TabAt (w.drewN n) g t cs := h
theorem TabAt.set {w : World} {g : Nat} {t : TypeId} {cs : Array Value} (h : TabAt w g t cs) (i : Nat) (u : Value) : TabAt (w.setCell ⟨g, i, none⟩ u) g t (cs.setIfInBounds i u) := by
  unfold TabAt at h ⊢
  simp [World.setCell, Array.getElem?_modify, h]
theorem TabAt.alloc {w : World} {g : Nat} {t : TypeId} {cs : Array Value} (h : TabAt w g t cs) (o : Obj) : TabAt (w.alloc o) g t cs := (heap_alloc_old w o h.lt).trans h
theorem TabAt.new (w : World) (t : TypeId) (cs : Array Value) : TabAt (w.alloc (.cells cs t)) w.heap.size t cs := heap_alloc_new w _
/-- The cells of the table of letters in common that stand after k whole rows and m entries of the next one. -/
def lcsD (nb k m i j : Nat) : Prop := j ≤ nb ∧ (i ≤ k ∨ (i = k + 1 ∧ j ≤ m) ∨ j = 0)
theorem lcsD_step (nb k m : Nat) (hm : m < nb) : ∀ i j, i ≤ 16 → j ≤ 16 → lcsD nb k (m + 1) i j → lcsD nb k m i j ∨ (i = k + 1 ∧ j = m + 1) := by
  intro i j _ _ h
  unfold lcsD at *
  omega
theorem TabOk.weak {f : Nat → Nat → Int} {D D' : Nat → Nat → Prop} {cs : Array Value} (h : TabOk f D cs) (hD : ∀ i j, i ≤ 16 → j ≤ 16 → D' i j → D i j) : TabOk f D' cs :=
  ⟨h.1, fun i j h1 h2 h3 => h.2 i j h1 h2 (hD i j h1 h2 h3)⟩
theorem lcsD_row (nb k : Nat) : ∀ i j, i ≤ 16 → j ≤ 16 → lcsD nb (k + 1) 0 i j → lcsD nb k nb i j := by
  intro i j _ _ h
  unfold lcsD at *
  omega
/-- The cells of the table of distances that stand after the first row and column, k further rows and m further entries of the next one. -/
def disD (na nb k m i j : Nat) : Prop := i ≤ na ∧ (j = 0 ∨ (j ≤ nb ∧ (i ≤ k ∨ (i = k + 1 ∧ j ≤ m))))
theorem disD_step (na nb k m : Nat) (hm : m < nb) : ∀ i j, i ≤ 16 → j ≤ 16 → disD na nb k (m + 1) i j → disD na nb k m i j ∨ (i = k + 1 ∧ j = m + 1) := by
  intro i j _ _ h
  unfold disD at *
  omega
theorem disD_row (na nb k : Nat) (hk : k < na) : ∀ i j, i ≤ 16 → j ≤ 16 → disD na nb (k + 1) 0 i j → disD na nb k nb i j := by
  intro i j _ _ h
  unfold disD at *
  omega

/-- The row's values 0 .. n - 1 as9 cells. -/
def rowV (f : Nat → Int) (n : Nat) : List Value := (List.range n).map fun j => Value.int .i64 (f j)
theorem rowV_len (f : Nat → Int) (n : Nat) : (rowV f n).length = n := by simp [rowV]
theorem rowV_at (f : Nat → Int) (n j : Nat) (h : j < n) : (rowV f n)[j]? = some (.int .i64 (f j)) := by simp [rowV, h]
theorem rowV_snoc (f : Nat → Int) (n : Nat) : rowV f n ++ [.int .i64 (f n)] = rowV f (n + 1) := by simp [rowV, List.range_succ]
theorem rowV_one (f : Nat → Int) : [Value.int .i64 (f 0)] = rowV f 1 := rfl
end
section
set_option linter.unusedVariables false
open Go.RowKit

def sbZ (xs : List Int) (a : Int) : List Int := if clsC xs [a] = 0 then subU xs a xs.length else []
theorem sbZ_yes {xs : List Int} {a : Int} (h : clsC xs [a] = 0) : sbZ xs a = subU xs a xs.length := if_pos h
theorem sbZ_no {xs : List Int} {a : Int} (h : clsC xs [a] ≠ 0) : sbZ xs a = [] := if_neg h
theorem sbZ_len (xs : List Int) (a : Int) : (sbZ xs a).length ≤ 20 := by
  by_cases h : clsC xs [a] = 0
  · rw [sbZ_yes h]
    have := sub_len xs a xs.length
    have := (clsC_one h).1.le
    omega
  · rw [sbZ_no h]; exact Nat.zero_le _

/-- The closure's value, out of the blocks that it captures. -/
def cloV (F T K : Nat) : Value := .func (.func 143) #[] #[.pointer (some ⟨F, 0, none⟩), .pointer (some ⟨T, 0, none⟩), .pointer (some ⟨K, 0, none⟩)]
/-- What the walk down holds: u is what the variable 'found' holds, ys what the row holds. -/
structure Dn (w : World) (F T K R : Nat) (tv : Value) (V : World) (u : Value) (A : Option Addr) (m c : Nat) (ys : List Int) : Prop where
  own : V.ownsRow R 2 1 (.slice A m c) m (intV ys)
  fb : TabAt V F 49 #[u]
  tb : TabAt V T 49 #[tv]
  kb : TabAt V K 153 #[cloV F T K]
  bel : Below w.heap.size w V
  lo : w.heap.size ≤ T ∧ T < R ∧ w.heap.size ≤ F ∧ F < R ∧ K < R ∧ F ≠ T ∧ F ≠ K
theorem Dn.alloc {w V : World} {F T K R m c : Nat} {tv u : Value} {A : Option Addr} {ys : List Int} (h : Dn w F T K R tv V u A m c ys) (o : Obj) : Dn w F T K R tv (V.alloc o) u A m c ys :=
  ⟨h.own.alloc _, h.fb.alloc _, h.tb.alloc _, h.kb.alloc _, h.bel.alloc h.bel.size _, h.lo⟩
theorem Dn.fc {w V : World} {F T K R m c : Nat} {tv u : Value} {A : Option Addr} {ys : List Int} (h : Dn w F T K R tv V u A m c ys) : V.cell? ⟨F, 0, none⟩ = some u := (h.fb.cell 0).trans rfl
theorem Dn.tc {w V : World} {F T K R m c : Nat} {tv u : Value} {A : Option Addr} {ys : List Int} (h : Dn w F T K R tv V u A m c ys) : V.cell? ⟨T, 0, none⟩ = some tv := (h.tb.cell 0).trans rfl
theorem Dn.kc {w V : World} {F T K R m c : Nat} {tv u : Value} {A : Option Addr} {ys : List Int} (h : Dn w F T K R tv V u A m c ys) : V.cell? ⟨K, 0, none⟩ = some (cloV F T K) := (h.kb.cell 0).trans rfl
theorem grown_set10 (w : World) (B i : Nat) (u : Value) : w.grownBy (w.setCell ⟨B, i, none⟩ u) (some B) :=
  ⟨rfl, rfl, rfl, by simp, fun k hk hne => Below.heap_setCell w _ u k (fun e => hne (by rw [e]))⟩
theorem tab_grown10 {w w' : World} {g : Nat} {t : TypeId} {cs : Array Value} {r : Option Nat} (h : TabAt w g t cs) (hg : w.grownBy w' r) (hne : ∀ k, r = some k → k ≠ g) : TabAt w' g t cs := (hg.block g h.lt (fun e => hne g e.symm rfl)).trans h
theorem Dn.put {w V : World} {F T K R m c : Nat} {tv u u' : Value} {A : Option Addr} {ys : List Int} (h : Dn w F T K R tv V u A m c ys) : Dn w F T K R tv (V.setCell ⟨F, 0, none⟩ u') u' A m c ys := by
  have hg := grown_set10 V F 0 u'
  obtain ⟨l1, l2, l3, l4, l5, l6, l7⟩ := h.lo
  refine ⟨h.own.kept hg (.inr (fun e => ?_)), ?_, tab_grown10 h.tb hg (fun k hk => by cases hk; exact l6), tab_grown10 h.kb hg (fun k hk => by cases hk; exact l7), h.bel.setCell (by exact l3) _, h.lo⟩
  · have := (h.own.lt F e).1; omega
  · exact h.fb.set 0 u'
theorem wpList_dn {ops : Array Oper} {rest : List Oper} {o : Oper} {a : Act} {Q : Exit → Act → World → Prop} {w V : World} {F T K R m c : Nat} {tv u : Value} {A : Option Addr} {ys : List Int} {y : Int} (hL : Dn w F T K R tv V u A m c ys) (hgd : o.guard = none) (s x : Operand)
    (ho : o.op = .call { callee := .builtin .append, args := #[s, x], argTypes := #[49, 49] }) (hs : a.eval s = .slice A m c) (hx : a.eval x = .slice (some ⟨V.heap.size, 0, none⟩) 1 1) (hm : m ≤ 1048576) (hR : R ≤ V.heap.size)
    (h : ∀ (A' : Option Addr) (c' : Nat) (w' : World), Dn w F T K R tv w' u A' (m + 1) c' (ys ++ [y]) → V.heap.size ≤ w'.heap.size → wpList Tryz.prog ops Q rest (a.put o.dst (.slice A' (m + 1) c')) w') : wpList Tryz.prog ops Q (o :: rest) a (V.alloc (.cells #[.int .i64 y] 2)) := by
  obtain ⟨i0, hi0, hz0, hz1, hz2⟩ := info_parts info_i64
  refine wpList_append_own _ hgd s x 49 ho R 2 i0 _ 1 8 Tryz.underlying49 hi0 hz0 hz1 hz2 rfl (by decide) _ m (intV ys) hs (hL.own.alloc _) ⟨V.heap.size, 0, none⟩ 1 1 [.int .i64 y] hx rfl (one_cell' _ _ _ (new_one V _ _)) (fun u hu => by simp at hu; subst hu; rfl) (by unfold maxLen; omega) (by omega) (by simp; omega) ?_
  intro v' w' h1 h2 _
  rw [intV_snoc] at h1
  obtain ⟨g2, c2, rfl, _, _⟩ := h1.form (Nat.succ_pos _)
  have hs2 := h2.size
  simp at hs2
  obtain ⟨l1, l2, l3, l4, l5, l6, l7⟩ := hL.lo
  have hk : ∀ k, (Value.slice A m c).ownBlock = some k → R ≤ k := fun k hk => (hL.own.lt k hk).1
  exact h _ c2 w' ⟨h1, tab_grown10 (hL.fb.alloc _) h2 (fun k e => by have := hk k e; omega), tab_grown10 (hL.tb.alloc _) h2 (fun k e => by have := hk k e; omega), tab_grown10 (hL.kb.alloc _) h2 (fun k e => by have := hk k e; omega),
    below_own (B := R) (hL.bel.alloc hL.bel.size _) h2 (fun k e => by have := hk k e; omega), hL.lo⟩ (by omega)
theorem kids_le (xs : List Int) (f c : Nat) : ∀ (j k : Nat), k ≤ j → (kidsU xs f c k).length ≤ (kidsU xs f c j).length := by
  intro j
  induction j with
  | zero => intro k h; obtain rfl : k = 0 := by omega
            exact Nat.le_refl _
  | succ j ih =>
    intro k h
    by_cases e : k = j + 1
    · subst e; exact Nat.le_refl _
    · refine Nat.le_trans (ih k (by omega)) ?_
      unfold kidsU
      rw [List.range_succ, List.flatMap_append, List.length_append]
      omega

/-- What the closure leaves: the row has grown by the walk down. -/
def DnOut (w : World) (F T K R : Nat) (tv : Value) (V : World) (zs : List Int) (e : Ending) (V' : World) : Prop :=
  e = .returned (.tuple #[]) ∧ ∃ A m c, Dn w F T K R tv V' (.slice A m c) A m c zs ∧ V.heap.size ≤ V'.heap.size
set_option maxHeartbeats 1000000 in
set_option maxRecDepth 100000 in
theorem cWalk (A : Option Addr) (n c : Nat) (xs : List Int) (w : World) (hT : Tree xs) (h : NumAt w w.heap.size A n xs) (F T K R : Nat) :
    ∀ (f q : Nat) (V : World) (A1 : Option Addr) (m c1 : Nat) (ys : List Int), xs.length ≤ f + q → q < xs.length → ys.length + (dfs xs f q).length ≤ 1000 → R ≤ V.heap.size → Dn w F T K R (.slice A n c) V (.slice A1 m c1) A1 m c1 ys →
    Calls Tryz.prog 143 #[.int .i64 (q : Int), .pointer (some ⟨F, 0, none⟩), .pointer (some ⟨T, 0, none⟩), .pointer (some ⟨K, 0, none⟩)] V (DnOut w F T K R (.slice A n c) V (ys ++ dfs xs f q)) := by
  have HL := Lib.hid h.1
  have H : Hid (∀ V, Below w.heap.size w V → NumAt V w.heap.size A n xs) := Lib.hid (fun V hV => h.below hV (Nat.le_refl _))
  have HT := Lib.hid hT
  have hn : n ≤ 20 := by rw [h.1]; exact hT.le
  clear h hT
  intro f
  induction f with
  | zero => intro q V A1 m c1 ys h1 h2; omega
  | succ f ih =>
    intro q V A1 m c1 ys h1 h2 h3 hR hD
    have HIH := Lib.hid ih
    have H1 := Lib.hid h1
    have H3 := Lib.hid h3
    have HD := Lib.hid hD
    have hq : q < n := by have := HL.out; omega
    have hm : m ≤ 1000 := by have h4 := hD.own.1; rw [intV_len] at h4; omega
    have hf0 := hD.fc
    have hfz := hD.fb.frozen 0
    clear ih h1 h2 h3 hD
    go_enter Tryz.func143, Tryz.ntmps143
    go_wp2_with (at_builtin; refine wpList_dn HD.out rfl _ _ rfl rfl rfl (by omega) hR ?_; intro A9 c9 w9 hl9 hs9; have HC9 := Lib.hid hl9; have HP9 := Lib.hid (hl9.put (u' := .slice A9 (m + 1) c9)); have hf9 := hl9.fc; have hz9 := hl9.fb.frozen 0; have ht9 := HP9.out.tc; clear hl9)
    have HS9 : Hid (V.heap.size ≤ (w9.setCell ⟨F, 0, none⟩ (.slice A9 (m + 1) c9)).heap.size) := Lib.hid (by simp; exact hs9)
    clear hf0 hfz hf9 hz9 hs9 HC9 HD
    go_loopw [5, 6, 13] (fun u p i wr => ∃ (u1 p1 : Value) (A2 : Option Addr) (m2 c2 k : Nat), u1 = u ∧ p1 = p ∧ k ≤ n ∧ i = .int .i64 k ∧ Hid (Dn w F T K R (.slice A n c) wr (.slice A2 m2 c2) A2 m2 c2 (ys ++ (q : Int) :: kidsU xs f q k)) ∧ Hid (V.heap.size ≤ wr.heap.size)) (fun _ _ i _ => n - (intOf i).toNat)
    case atStart => exact ⟨_, _, A9, m + 1, c9, 0, rfl, rfl, Nat.zero_le _, rfl, Lib.hid (by rw [kids_zero]; exact HP9.out), HS9⟩
    case round =>
      clear HP9 HS9 ht9
      obtain ⟨u1, p1, A2, m2, c2, k, rfl, rfl, hk, rfl, HC, HS⟩ := hrel
      by_cases hlt : k < n
      · obtain ⟨x, hx⟩ := (H.out wr HC.out.bel).get hlt
        obtain ⟨b, o, rfl, _, hcx⟩ := (H.out wr HC.out.bel).row hx
        have e1 : (0 : Int) ≤ (k : Int) := by omega
        have e2 : (k : Int) < (n : Int) := by omega
        have HX := Lib.hid hx
        clear hx
        by_cases he : x = (q : Int)
        · subst he
          have d1 : ((q : Int) == (q : Int)) = true := by simp
          have HY := Lib.hid (kids_yes (f := f) HX.out)
          have hkc := HC.out.kc
          unfold cloV at hkc
          have CW := Lib.hid (HIH.out k wr A2 m2 c2 (ys ++ (q : Int) :: kidsU xs f q k) (by have := kid_gt HT.out HX.out; have := H1.out; omega) (by have := HL.out; omega) (by
            have h4 := H3.out
            rw [dfs_succ, List.length_cons] at h4
            have h5 := kids_le xs f q xs.length (k + 1) (by have := HL.out; omega)
            rw [HY.out, List.length_append] at h5
            rw [List.length_append, List.length_cons]
            omega) (Nat.le_trans hR HS.out) HC.out)
          go_wp2_with (go_at_call 143; refine CW.out.mono ?_; rintro e w3 ⟨rfl, A3, m3, c3, hD3, hs3⟩; have HD3 := Lib.hid hD3; have HS3 := Lib.hid (Nat.le_trans HS.out hs3); clear hD3 hs3)
          go_roundw
          case rel => exact ⟨_, _, A3, m3, c3, k + 1, rfl, rfl, by omega, by go_num, Lib.hid (by rw [HY.out]; have := HD3.out; rwa [List.append_assoc, List.cons_append] at this), HS3⟩
          case measure => simp [intOf]; omega
        · have HY := Lib.hid (kids_no (f := f) HX.out he)
          have d1 : (x == (q : Int)) = false := by rw [beq_eq_false_iff_ne]; exact he
          clear he
          go_wp2_with fail
          go_roundw
          case rel => exact ⟨_, _, A2, m2, c2, k + 1, rfl, rfl, by omega, by go_num, Lib.hid (by rw [HY.out]; exact HC.out), HS⟩
          case measure => simp [intOf]; omega
      · have HE : Hid (xs.length = k) := Lib.hid (by have := HL.out; omega)
        go_wp2_with fail
        go_end0
        exact ⟨rfl, A2, m2, c2, by rw [dfs_succ, HE.out]; exact HC.out, HS.out⟩
end
end Go.Proofs.YtglmibmjbignbaaGreatDoor
