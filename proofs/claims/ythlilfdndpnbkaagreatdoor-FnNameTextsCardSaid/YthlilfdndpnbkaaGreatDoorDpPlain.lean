/-
  Plain facts on the two tables: letters in common ('lcsR') and the edit distance ('disR'), row by row. No program is named here.
-/
import Derived.Test.YthlilfdndpnbkaaGreatDoorPlain
import Derived.OwnWalk
import Derived.Laws.OwnMore
import Derived.Laws.Rows
import Derived.Deep.Draws
namespace Go.Proofs.YthlilfdndpnbkaaGreatDoor
set_option linter.unusedVariables false

def lcsNext (e : Nat → Bool) (prev : Nat → Int) : Nat → Int
  | 0 => 0
  | j + 1 => if e j then prev j + 1 else max (prev (j + 1)) (lcsNext e prev j)
def lcsR (e : Nat → Nat → Bool) : Nat → Nat → Int
  | 0 => fun _ => 0
  | i + 1 => lcsNext (e i) (lcsR e i)
theorem lcsR_zero (e : Nat → Nat → Bool) (j : Nat) : lcsR e 0 j = 0 := rfl
theorem lcsR_col (e : Nat → Nat → Bool) : ∀ i, lcsR e i 0 = 0
  | 0 => rfl
  | _ + 1 => rfl
theorem lcsR_hit (e : Nat → Nat → Bool) (i j : Nat) (h : e i j = true) : lcsR e (i + 1) (j + 1) = lcsR e i j + 1 := by
  show lcsNext (e i) (lcsR e i) (j + 1) = _
  rw [lcsNext, if_pos h]
theorem lcsR_miss (e : Nat → Nat → Bool) (i j : Nat) (h : e i j = false) : lcsR e (i + 1) (j + 1) = max (lcsR e i (j + 1)) (lcsR e (i + 1) j) := by
  show lcsNext (e i) (lcsR e i) (j + 1) = _
  rw [lcsNext, if_neg (by simp [h])]; rfl
theorem lcsNext_bd (e : Nat → Bool) (prev : Nat → Int) (n : Int) (hp : ∀ j, 0 ≤ prev j ∧ prev j ≤ n) : ∀ j, 0 ≤ lcsNext e prev j ∧ lcsNext e prev j ≤ n + 1
  | 0 => by have := hp 0; simp [lcsNext]; omega
  | j + 1 => by
    have h1 := hp j
    have h2 := hp (j + 1)
    have h3 := lcsNext_bd e prev n hp j
    simp only [lcsNext]
    split <;> omega
theorem lcsR_bd (e : Nat → Nat → Bool) : ∀ i j, 0 ≤ lcsR e i j ∧ lcsR e i j ≤ i
  | 0, j => by simp [lcsR_zero]
  | i + 1, j => by
    have := lcsNext_bd (e i) (lcsR e i) i (lcsR_bd e i) j
    simpa [lcsR] using this

def disNext (e : Nat → Bool) (prev : Nat → Int) : Nat → Int
  | 0 => prev 0 + 1
  | j + 1 => min (prev j + if e j then 0 else 1) (min (prev (j + 1) + 1) (disNext e prev j + 1))
def disR (e : Nat → Nat → Bool) : Nat → Nat → Int
  | 0 => fun j => j
  | i + 1 => disNext (e i) (disR e i)
theorem disR_zero (e : Nat → Nat → Bool) (j : Nat) : disR e 0 j = j := rfl
theorem disR_col (e : Nat → Nat → Bool) : ∀ i, disR e i 0 = i
  | 0 => rfl
  | i + 1 => by
    show disNext (e i) (disR e i) 0 = _
    rw [disNext, disR_col e i]; rfl
theorem disR_next (e : Nat → Nat → Bool) (i j : Nat) : disR e (i + 1) (j + 1) = min (disR e i j + if e i j then 0 else 1) (min (disR e i (j + 1) + 1) (disR e (i + 1) j + 1)) := rfl
theorem disR_bd (e : Nat → Nat → Bool) : ∀ i j, 0 ≤ disR e i j ∧ disR e i j ≤ i + j
  | 0, j => by simp [disR_zero]
  | i + 1, 0 => by rw [disR_col]; omega
  | i + 1, j + 1 => by
    have h1 := disR_bd e i j
    have h2 := disR_bd e i (j + 1)
    have h3 := disR_bd e (i + 1) j
    rw [disR_next]
    split <;> omega

/-- Whether letter i of a is letter j of b. -/
def same (a b : ByteArray) (i j : Nat) : Bool := decide (a.data.toList[i]? = b.data.toList[j]?)
theorem get_some (a : ByteArray) (i : Nat) (h : i < a.size) : a.data.toList[i]? = some a[i] := by
  rw [List.getElem?_eq_getElem (by simpa using h)]; rfl
theorem same_yes (a b : ByteArray) (i j : Nat) (hi : i < a.size) (hj : j < b.size) (h : a[i] = b[j]) : same a b i j = true := by
  unfold same; rw [get_some a i hi, get_some b j hj, h]; simp
theorem same_no (a b : ByteArray) (i j : Nat) (hi : i < a.size) (hj : j < b.size) (h : a[i] ≠ b[j]) : same a b i j = false := by
  unfold same; rw [get_some a i hi, get_some b j hj]; simp [h]
def lcs (a b : ByteArray) (i j : Nat) : Int := lcsR (same a b) i j
def dis (a b : ByteArray) (i j : Nat) : Int := disR (same a b) i j
theorem lcs_bd (a b : ByteArray) (i j : Nat) : 0 ≤ lcs a b i j ∧ lcs a b i j ≤ i := lcsR_bd _ i j
theorem dis_bd (a b : ByteArray) (i j : Nat) : 0 ≤ dis a b i j ∧ dis a b i j ≤ i + j := disR_bd _ i j
theorem beq_yes (a b : ByteArray) (i j : Nat) (hi : i < a.size) (hj : j < b.size) (h : a[i] = b[j]) : ((a[i].toNat : Int) == (b[j].toNat : Int)) = true := by rw [h]; simp
theorem beq_no (a b : ByteArray) (i j : Nat) (hi : i < a.size) (hj : j < b.size) (h : a[i] ≠ b[j]) : ((a[i].toNat : Int) == (b[j].toNat : Int)) = false := by
  rw [beq_eq_false_iff_ne]; intro hh; exact h (UInt8.toNat_inj.1 (by omega))

theorem bne_yes (a b : ByteArray) (i j : Nat) (hi : i < a.size) (hj : j < b.size) (h : a[i] = b[j]) : ((a[i].toNat : Int) != (b[j].toNat : Int)) = false := by rw [h]; simp
theorem bne_no (a b : ByteArray) (i j : Nat) (hi : i < a.size) (hj : j < b.size) (h : a[i] ≠ b[j]) : ((a[i].toNat : Int) != (b[j].toNat : Int)) = true := by
  rw [bne_iff_ne]; intro hh; exact h (UInt8.toNat_inj.1 (by omega))

/-- A table of 17 times 17 cells in one row, of which those in D hold f's values. -/
def TabOk (f : Nat → Nat → Int) (D : Nat → Nat → Prop) (cs : Array Value) : Prop :=
  cs.size = 289 ∧ ∀ i j, i ≤ 16 → j ≤ 16 → D i j → cs[i * 17 + j]? = some (.int .i64 (f i j))
theorem TabOk.set {f : Nat → Nat → Int} {D D' : Nat → Nat → Prop} {cs : Array Value} (h : TabOk f D cs) (i0 j0 : Nat) (hi : i0 ≤ 16) (hj : j0 ≤ 16) (v : Int) (hv : v = f i0 j0)
    (hD : ∀ i j, i ≤ 16 → j ≤ 16 → D' i j → D i j ∨ (i = i0 ∧ j = j0)) : TabOk f D' (cs.setIfInBounds (i0 * 17 + j0) (.int .i64 v)) := by
  refine ⟨by simp [h.1], fun i j h1 h2 h3 => ?_⟩
  by_cases he : i0 * 17 + j0 = i * 17 + j
  · have e1 : i = i0 := by omega
    have e2 : j = j0 := by omega
    subst e1; subst e2; subst hv
    rw [Array.getElem?_setIfInBounds_self_of_lt (by rw [h.1]; omega)]
  · rw [Array.getElem?_setIfInBounds_ne he]
    rcases hD i j h1 h2 h3 with hd | ⟨e1, e2⟩
    · exact h.2 i j h1 h2 hd
    · subst e1; subst e2; exact absurd rfl he
/-- Block g of the world is the table cs. -/
def TabAt (w : World) (g : Nat) (t : TypeId) (cs : Array Value) : Prop := w.heap[g]? = some (.cells cs t (0, 0))
theorem TabAt.lt {w : World} {g : Nat} {t : TypeId} {cs : Array Value} (h : TabAt w g t cs) : g < w.heap.size := (Array.getElem?_eq_some_iff.1 h).1
theorem TabAt.cell {w : World} {g : Nat} {t : TypeId} {cs : Array Value} (h : TabAt w g t cs) (i : Nat) : w.cell? ⟨g, i, none⟩ = cs[i]? := cell_of_row w g i cs t (0, 0) h
theorem TabAt.some {w : World} {g : Nat} {t : TypeId} {cs : Array Value} (h : TabAt w g t cs) {i : Nat} (hi : i < cs.size) : ∃ v, w.cell? ⟨g, i, none⟩ = some v :=
  ⟨cs[i], (h.cell i).trans (Array.getElem?_eq_getElem hi)⟩
theorem TabAt.frozen {w : World} {g : Nat} {t : TypeId} {cs : Array Value} (h : TabAt w g t cs) (i : Nat) : w.frozen? ⟨g, i, none⟩ = false := frozen_of_row w g i cs t h
theorem TabAt.dr {w : World} {g : Nat} {t : TypeId} {cs : Array Value} (h : TabAt w g t cs) (n : Nat) : TabAt (w.drewN n) g t cs := h
theorem TabAt.set {w : World} {g : Nat} {t : TypeId} {cs : Array Value} (h : TabAt w g t cs) (i : Nat) (u : Value) : TabAt (w.setCell ⟨g, i, none⟩ u) g t (cs.setIfInBounds i u) := by
  unfold TabAt at h ⊢
  simp [World.setCell, Array.getElem?_modify, h]
theorem TabAt.alloc {w : World} {g : Nat} {t : TypeId} {cs : Array Value} (h : TabAt w g t cs) (o : Obj) : TabAt (w.alloc o) g t cs := (heap_alloc_old w o h.lt).trans h
theorem TabAt.new (w : World) (t : TypeId) (cs : Array Value) : TabAt (w.alloc (.cells cs t)) w.heap.size t cs := heap_alloc_new w _
/-- The cells of the table of letters in common that stand after k whole rows and m entries of the next one. -/
def lcsD (nb k m i j : Nat) : Prop := j ≤ nb ∧ (i ≤ k ∨ (i = k + 1 ∧ j ≤ m) ∨ j = 0)
theorem lcsD_step (nb k m : Nat) (hm : m < nb) : ∀ i j, i ≤ 16 → j ≤ 16 → lcsD nb k (m + 1) i j → lcsD nb k m i j ∨ (i = k + 1 ∧ j = m + 1) := by
  intro i j _ _ h
  unfold lcsD at *
  omega
theorem TabOk.weak {f : Nat → Nat → Int} {D D' : Nat → Nat → Prop} {cs : Array Value} (h : TabOk f D cs) (hD : ∀ i j, i ≤ 16 → j ≤ 16 → D' i j → D i j) : TabOk f D' cs :=
  ⟨h.1, fun i j h1 h2 h3 => h.2 i j h1 h2 (hD i j h1 h2 h3)⟩
theorem lcsD_row (nb k : Nat) : ∀ i j, i ≤ 16 → j ≤ 16 → lcsD nb (k + 1) 0 i j → lcsD nb k nb i j := by
  intro i j _ _ h
  unfold lcsD at *
  omega
/-- The cells of the table of distances that stand after the first row and column, k further rows and m further entries of the next one. -/
def disD (na nb k m i j : Nat) : Prop := i ≤ na ∧ (j = 0 ∨ (j ≤ nb ∧ (i ≤ k ∨ (i = k + 1 ∧ j ≤ m))))
theorem disD_step (na nb k m : Nat) (hm : m < nb) : ∀ i j, i ≤ 16 → j ≤ 16 → disD na nb k (m + 1) i j → disD na nb k m i j ∨ (i = k + 1 ∧ j = m + 1) := by
  intro i j _ _ h
  unfold disD at *
  omega
theorem disD_row (na nb k : Nat) (hk : k < na) : ∀ i j, i ≤ 16 → j ≤ 16 → disD na nb (k + 1) 0 i j → disD na nb k nb i j := by
  intro i j _ _ h
  unfold disD at *
  omega

/-- The row's values 0 .. n - 1 as cells. -/
def rowV (f : Nat → Int) (n : Nat) : List Value := (List.range n).map fun j => Value.int .i64 (f j)
theorem rowV_len (f : Nat → Int) (n : Nat) : (rowV f n).length = n := by simp [rowV]
theorem rowV_at (f : Nat → Int) (n j : Nat) (h : j < n) : (rowV f n)[j]? = some (.int .i64 (f j)) := by simp [rowV, h]
theorem rowV_snoc (f : Nat → Int) (n : Nat) : rowV f n ++ [.int .i64 (f n)] = rowV f (n + 1) := by simp [rowV, List.range_succ]
theorem rowV_one (f : Nat → Int) : [Value.int .i64 (f 0)] = rowV f 1 := rfl
end Go.Proofs.YthlilfdndpnbkaaGreatDoor
