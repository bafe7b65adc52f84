/-
  The contract of spec.l08DrawEnding.
-/
import Derived.Test.YtippjomkbpiliaaPick7
import Derived.Test.YtippjomkbpiliaaEnPlain
import Derived.Test.YtippjomkbpiliaaEnS
import Derived.Deep.DeepCutAuto
import Derived.Deep.RegionHeld3
namespace Go.Proofs.Ytippjomkbpiliaa
set_option linter.unusedVariables false
set_option linter.unusedSimpArgs false
open Go.RowKit

def tab9 (i : Nat) : ByteArray := [(⟨#[]⟩ : ByteArray), ⟨#[97]⟩, ⟨#[101]⟩, ⟨#[115]⟩, ⟨#[98, 121]⟩, ⟨#[116, 111, 110]⟩, ⟨#[101, 110]⟩, ⟨#[114, 105]⟩, ⟨#[110, 97]⟩].getD i ByteArray.empty
theorem tab9_size (i : Nat) (h : i < 9) : (tab9 i).size ≤ 8 := by
  match i, h with
  | 0, _ => decide
  | 1, _ => decide
  | 2, _ => decide
  | 3, _ => decide
  | 4, _ => decide
  | 5, _ => decide
  | 6, _ => decide
  | 7, _ => decide
  | 8, _ => decide
theorem tab9_at (w : World) (i : Nat) (h : i < 9) : (w.alloc (.cells #[.string ⟨#[]⟩, .string ⟨#[97]⟩, .string ⟨#[101]⟩, .string ⟨#[115]⟩, .string ⟨#[98, 121]⟩, .string ⟨#[116, 111, 110]⟩, .string ⟨#[101, 110]⟩, .string ⟨#[114, 105]⟩, .string ⟨#[110, 97]⟩] 9)).cell? ⟨w.heap.size, i, none⟩ = some (.string (tab9 i)) := by
  rw [World.cell?_alloc_at _ _ _ _ rfl]
  match i, h with
  | 0, _ => rfl
  | 1, _ => rfl
  | 2, _ => rfl
  | 3, _ => rfl
  | 4, _ => rfl
  | 5, _ => rfl
  | 6, _ => rfl
  | 7, _ => rfl
  | 8, _ => rfl
/-- A box of an ending. -/
def EB (w : World) (b : Nat) (e : En) : Prop := (b < w.heap.size ∧ EnCell w b 0 e) ∧ w.frozen? ⟨b, 0, none⟩ = false ∧ w.frozen? ⟨b, 1, none⟩ = false ∧ w.frozen? ⟨b, 2, none⟩ = false
theorem EB.new (w : World) (e : En) : EB (w.alloc (.cells #[.string e.1, .string e.2.1, .int .i64 e.2.2] 60)) w.heap.size e := by
  have hn : (w.alloc (.cells #[.string e.1, .string e.2.1, .int .i64 e.2.2] 60)).heap[w.heap.size]? = some (.cells #[.string e.1, .string e.2.1, .int .i64 e.2.2] 60) := by
    show (w.heap.push _)[w.heap.size]? = some _
    simp
  refine ⟨⟨by simp, ?_, ?_, ?_⟩, ?_, ?_, ?_⟩
  · rw [World.cell?_alloc_at _ _ _ _ rfl]; rfl
  · rw [World.cell?_alloc_at _ _ _ _ rfl]; rfl
  · rw [World.cell?_alloc_at _ _ _ _ rfl]; rfl
  · unfold World.frozen?; rw [hn]; simp
  · unfold World.frozen?; rw [hn]; simp
  · unfold World.frozen?; rw [hn]; simp
theorem EB.grown {w w' : World} {b B : Nat} {e : En} (h : EB w b e) (hg : w.grownBy w' (some B)) (hne : b ≠ B) : EB w' b e := by
  have hh := hg.block b h.1.1 (fun e => hne (by injection e))
  have c : ∀ i, w'.cell? ⟨b, i, none⟩ = w.cell? ⟨b, i, none⟩ := fun i => by unfold World.cell?; simp only [hh]
  have f : ∀ i, w'.frozen? ⟨b, i, none⟩ = w.frozen? ⟨b, i, none⟩ := fun i => by unfold World.frozen?; simp only [hh]
  exact ⟨⟨Nat.lt_of_lt_of_le h.1.1 hg.size, (c 0).trans h.1.2.1, (c 1).trans h.1.2.2.1, (c 2).trans h.1.2.2.2⟩, (f 0).trans h.2.1, (f 1).trans h.2.2.1, (f 2).trans h.2.2.2⟩
theorem EB.drew8 {w : World} {b : Nat} {e : En} (h : EB w b e) : EB w.drew b e := h
theorem src_drew8 {w : World} {B len : Nat} (h : Src w B len) : Src w.drew B len := h
def EndPost (w : World) (B len : Nat) (e : Ending) (w' : World) : Prop := ∃ (o n : ByteArray) (c : Int), o.size ≤ 8 ∧ n.size ≤ 8 ∧ e = .returned (.agg #[.string o, .string n, .int .i64 c]) ∧ Src w' B len ∧ w.grownBy w' (some B)

def zeroE : En := (⟨#[]⟩, ⟨#[]⟩, 0)
theorem EB.other {w : World} {b g i : Nat} {e : En} {u : Value} (h : EB w b e) (hne : b ≠ g) : EB (w.setCell ⟨g, i, none⟩ u) b e := by
  have hb := heap_set1 w g i b u hne
  exact ⟨⟨by simpa using h.1.1, (World.cell?_of_block (w := w) (a := ⟨b, 0, none⟩) hb).trans h.1.2.1, (World.cell?_of_block (w := w) (a := ⟨b, 1, none⟩) hb).trans h.1.2.2.1, (World.cell?_of_block (w := w) (a := ⟨b, 2, none⟩) hb).trans h.1.2.2.2⟩, (World.frozen?_of_block (w := w) (a := ⟨b, 0, none⟩) hb).trans h.2.1, (World.frozen?_of_block (w := w) (a := ⟨b, 1, none⟩) hb).trans h.2.2.1, (World.frozen?_of_block (w := w) (a := ⟨b, 2, none⟩) hb).trans h.2.2.2⟩
theorem EB.set0 {w : World} {b : Nat} {o n : ByteArray} {c : Int} (h : EB w b (o, n, c)) (u : ByteArray) : EB (w.setCell ⟨b, 0, none⟩ (.string u)) b (u, n, c) := by
  refine ⟨⟨by simpa using h.1.1, World.cell?_setCell_same' _ _ _ (by rw [h.1.2.1]; rfl), ?_, ?_⟩, (World.frozen?_setCell _ _ _ _).trans h.2.1, (World.frozen?_setCell _ _ _ _).trans h.2.2.1, (World.frozen?_setCell _ _ _ _).trans h.2.2.2⟩
  · rw [World.cell?_setCell_other _ _ _ _ (by intro e; injection e; omega)]; exact h.1.2.2.1
  · rw [World.cell?_setCell_other _ _ _ _ (by intro e; injection e; omega)]; exact h.1.2.2.2
theorem EB.set1 {w : World} {b : Nat} {o n : ByteArray} {c : Int} (h : EB w b (o, n, c)) (u : ByteArray) : EB (w.setCell ⟨b, 1, none⟩ (.string u)) b (o, u, c) := by
  refine ⟨⟨by simpa using h.1.1, ?_, World.cell?_setCell_same' _ _ _ (by have := h.1.2.2.1; rw [Nat.zero_add] at this; rw [this]; rfl), ?_⟩, (World.frozen?_setCell _ _ _ _).trans h.2.1, (World.frozen?_setCell _ _ _ _).trans h.2.2.1, (World.frozen?_setCell _ _ _ _).trans h.2.2.2⟩
  · rw [World.cell?_setCell_other _ _ _ _ (by intro e; injection e; omega)]; exact h.1.2.1
  · rw [World.cell?_setCell_other _ _ _ _ (by intro e; injection e; omega)]; exact h.1.2.2.2
theorem EB.set2 {w : World} {b : Nat} {o n : ByteArray} {c : Int} (h : EB w b (o, n, c)) (u : Int) : EB (w.setCell ⟨b, 2, none⟩ (.int .i64 u)) b (o, n, u) := by
  refine ⟨⟨by simpa using h.1.1, ?_, ?_, World.cell?_setCell_same' _ _ _ (by have := h.1.2.2.2; rw [Nat.zero_add] at this; rw [this]; rfl)⟩, (World.frozen?_setCell _ _ _ _).trans h.2.1, (World.frozen?_setCell _ _ _ _).trans h.2.2.1, (World.frozen?_setCell _ _ _ _).trans h.2.2.2⟩
  · rw [World.cell?_setCell_other _ _ _ _ (by intro e; injection e; omega)]; exact h.1.2.1
  · rw [World.cell?_setCell_other _ _ _ _ (by intro e; injection e; omega)]; exact h.1.2.2.1
theorem EB.alloc {w : World} {b : Nat} {e : En} (h : EB w b e) (o : Obj) : EB (w.alloc o) b e := by
  have hh : (w.alloc o).heap[b]? = w.heap[b]? := ((Below.refl w.heap.size w).alloc (Nat.le_refl _) o).block b h.1.1
  exact ⟨⟨by simp; have := h.1.1; omega, (World.cell?_of_block (w := w) (a := ⟨b, 0, none⟩) hh).trans h.1.2.1, (World.cell?_of_block (w := w) (a := ⟨b, 1, none⟩) hh).trans h.1.2.2.1, (World.cell?_of_block (w := w) (a := ⟨b, 2, none⟩) hh).trans h.1.2.2.2⟩, (World.frozen?_of_block (w := w) (a := ⟨b, 0, none⟩) hh).trans h.2.1, (World.frozen?_of_block (w := w) (a := ⟨b, 1, none⟩) hh).trans h.2.2.1, (World.frozen?_of_block (w := w) (a := ⟨b, 2, none⟩) hh).trans h.2.2.2⟩
/-- On the way: the source, the row of texts at P, the box of the result. -/
def DSt (w : World) (B len P : Nat) (V : World) : Prop :=
  Src V B len ∧ w.grownBy V (some B) ∧ B < w.heap.size ∧ (w.heap.size < P ∧ P < V.heap.size) ∧ (∀ i, i < 9 → V.cell? ⟨P, i, none⟩ = some (.string (tab9 i))) ∧ EB V w.heap.size zeroE
theorem DSt.drew {w V : World} {B len P : Nat} (h : DSt w B len P V) : DSt w B len P V.drew :=
  ⟨src_drew8 h.1, ⟨h.2.1.os, h.2.1.tape, h.2.1.output, h.2.1.size, h.2.1.block⟩, h.2.2.1, h.2.2.2.1, h.2.2.2.2.1, h.2.2.2.2.2⟩
theorem DSt.alloc {w V : World} {B len P : Nat} (h : DSt w B len P V) (o : Obj) : DSt w B len P (V.alloc o) :=
  ⟨h.1.alloc o, h.2.1.trans (World.grownBy_alloc V o (some B)), h.2.2.1, ⟨h.2.2.2.1.1, by simp; have := h.2.2.2.1.2; omega⟩, fun i hi => (((Below.refl V.heap.size V).alloc (Nat.le_refl _) o).cell (p := ⟨P, i, none⟩) h.2.2.2.1.2).trans (h.2.2.2.2.1 i hi), h.2.2.2.2.2.alloc o⟩
theorem DSt.next {w V V' : World} {B len P : Nat} (h : DSt w B len P V) (hS : Src V' B len) (hg : V.grownBy V' (some B)) : DSt w B len P V' :=
  ⟨hS, h.2.1.trans hg, h.2.2.1, ⟨h.2.2.2.1.1, Nat.lt_of_lt_of_le h.2.2.2.1.2 hg.size⟩, fun i hi => hg.cell (h.2.2.2.2.1 i hi) (by simp; have := h.2.2.1; have := h.2.2.2.1.1; omega), h.2.2.2.2.2.grown hg (by have := h.2.2.1; omega)⟩
/-- The box of the ending that is made. -/
def NB (w : World) (V : World) (b : Nat) : Prop := w.heap.size + 1 < b ∧ EB V b zeroE
theorem NB.new {w V : World} {B len : Nat} (h : DSt w B len (w.heap.size + 1) V) : NB w (V.alloc (.cells #[.string ⟨#[]⟩, .string ⟨#[]⟩, .int .i64 0] 60)) V.heap.size := ⟨by have := h.2.2.2.1; omega, EB.new V zeroE⟩
theorem NB.drew {w V : World} {b : Nat} (h : NB w V b) : NB w V.drew b := h
theorem NB.cells {w V : World} {b : Nat} (h : NB w V b) : b < V.heap.size ∧ V.cell? ⟨b, 0, none⟩ = some (.string ⟨#[]⟩) ∧ V.cell? ⟨b, 1, none⟩ = some (.string ⟨#[]⟩) ∧ V.cell? ⟨b, 2, none⟩ = some (.int .i64 0) ∧ V.frozen? ⟨b, 0, none⟩ = false ∧ V.frozen? ⟨b, 1, none⟩ = false ∧ V.frozen? ⟨b, 2, none⟩ = false :=
  ⟨h.2.1.1, h.2.1.2.1, h.2.1.2.2.1, h.2.1.2.2.2, h.2.2.1, h.2.2.2.1, h.2.2.2.2⟩
theorem S9.get {w V : World} {B len P : Nat} (h : (∀ i, i < 9 → V.cell? ⟨P, i, none⟩ = some (.string (tab9 i))) ∧ DSt w B len P V) : DSt w B len P V := h.2
theorem S9.of {w V : World} {B len P : Nat} (h : DSt w B len P V) : (∀ i, i < 9 → V.cell? ⟨P, i, none⟩ = some (.string (tab9 i))) ∧ DSt w B len P V := ⟨h.2.2.2.2.1, h⟩
theorem DSt.set1 {w V : World} {B len P b i : Nat} (h : DSt w B len P V) (hb : P < b) (x : Value) : DSt w B len P (V.setCell ⟨b, i, none⟩ x) := by
  have h3 := h.2.2.1
  have h4 := h.2.2.2.1
  refine ⟨h.1.set1 (by omega) x, grown_set1 h.2.1 (by omega) x, h3, ⟨h4.1, by simpa using h4.2⟩, fun j hj => (World.cell?_of_block (w := V) (a := ⟨P, j, none⟩) (heap_set1 V b i P x (by omega))).trans (h.2.2.2.2.1 j hj), h.2.2.2.2.2.other (by omega)⟩
/-- Behind the region. -/
def ESt (w : World) (B len : Nat) (b : Nat) (e : En) (V : World) : Prop := Src V B len ∧ w.grownBy V (some B) ∧ B < w.heap.size ∧ w.heap.size < b ∧ EB V w.heap.size zeroE ∧ EB V b e
theorem ESt.drew {w V : World} {B len b : Nat} {e : En} (h : ESt w B len b e V) : ESt w B len b e V.drew :=
  ⟨src_drew8 h.1, ⟨h.2.1.os, h.2.1.tape, h.2.1.output, h.2.1.size, h.2.1.block⟩, h.2.2.1, h.2.2.2.1, h.2.2.2.2.1, h.2.2.2.2.2⟩
theorem ESt.made {w V : World} {B len P b : Nat} (h : DSt w B len P V) (hN : NB w V b) (o n : ByteArray) (c : Int) :
    ESt w B len b (o, n, c) (((V.setCell ⟨b, 0, none⟩ (.string o)).setCell ⟨b, 1, none⟩ (.string n)).setCell ⟨b, 2, none⟩ (.int .i64 c)) := by
  have hB : B < b := by have := h.2.2.1; have := hN.1; omega
  have hb : w.heap.size < b := by have := hN.1; omega
  refine ⟨((h.1.set1 hB _).set1 hB _).set1 hB _, grown_set1 (grown_set1 (grown_set1 h.2.1 (Nat.le_of_lt hb) _) (Nat.le_of_lt hb) _) (Nat.le_of_lt hb) _, h.2.2.1, hb, ((h.2.2.2.2.2.other (by have := hN.1; omega)).other (by have := hN.1; omega)).other (by have := hN.1; omega), ((hN.2.set0 o).set1 n).set2 c⟩
theorem ESt.fresh {w V : World} {B len P : Nat} (h : DSt w B len P V) (o n : ByteArray) (c : Int) :
    ESt w B len V.heap.size (o, n, c) (V.alloc (.cells #[.string o, .string n, .int .i64 c] 60)) :=
  ⟨h.1.alloc _, h.2.1.trans (World.grownBy_alloc V _ (some B)), h.2.2.1, by have := h.2.2.2.1; omega, h.2.2.2.2.2.alloc _, EB.new V (o, n, c)⟩
theorem ESt.next {w V V' : World} {B len b : Nat} {e : En} (h : ESt w B len b e V) (hS : Src V' B len) (hg : V.grownBy V' (some B)) : ESt w B len b e V' :=
  ⟨hS, h.2.1.trans hg, h.2.2.1, h.2.2.2.1, h.2.2.2.2.1.grown hg (by have := h.2.2.1; omega), h.2.2.2.2.2.grown hg (by have := h.2.2.1; have := h.2.2.2.1; omega)⟩
theorem ESt.alloc {w V : World} {B len b : Nat} {e : En} (h : ESt w B len b e V) (o : Obj) : ESt w B len b e (V.alloc o) :=
  ⟨h.1.alloc o, h.2.1.trans (World.grownBy_alloc V o (some B)), h.2.2.1, h.2.2.2.1, h.2.2.2.2.1.alloc o, h.2.2.2.2.2.alloc o⟩
theorem ESt.set2 {w V : World} {B len b : Nat} {o n : ByteArray} {c : Int} (h : ESt w B len b (o, n, c) V) (u : Int) : ESt w B len b (o, n, u) (V.setCell ⟨b, 2, none⟩ (.int .i64 u)) :=
  ⟨h.1.set1 (by have := h.2.2.1; have := h.2.2.2.1; omega) _, grown_set1 h.2.1 (Nat.le_of_lt h.2.2.2.1) _, h.2.2.1, h.2.2.2.1, h.2.2.2.2.1.other (by have := h.2.2.2.1; omega), h.2.2.2.2.2.set2 u⟩
theorem ESt.cells {w V : World} {B len b : Nat} {o n : ByteArray} {c : Int} (h : ESt w B len b (o, n, c) V) :
    V.cell? ⟨b, 0, none⟩ = some (.string o) ∧ V.cell? ⟨b, 1, none⟩ = some (.string n) ∧ V.cell? ⟨b, 2, none⟩ = some (.int .i64 c) ∧ V.frozen? ⟨b, 0, none⟩ = false ∧ V.frozen? ⟨b, 1, none⟩ = false ∧ V.frozen? ⟨b, 2, none⟩ = false ∧
    V.cell? ⟨w.heap.size, 0, none⟩ = some (.string ⟨#[]⟩) ∧ V.cell? ⟨w.heap.size, 1, none⟩ = some (.string ⟨#[]⟩) ∧ V.cell? ⟨w.heap.size, 2, none⟩ = some (.int .i64 0) ∧ V.frozen? ⟨w.heap.size, 0, none⟩ = false ∧ V.frozen? ⟨w.heap.size, 1, none⟩ = false ∧ V.frozen? ⟨w.heap.size, 2, none⟩ = false :=
  ⟨h.2.2.2.2.2.1.2.1, h.2.2.2.2.2.1.2.2.1, h.2.2.2.2.2.1.2.2.2, h.2.2.2.2.2.2.1, h.2.2.2.2.2.2.2.1, h.2.2.2.2.2.2.2.2, h.2.2.2.2.1.1.2.1, h.2.2.2.2.1.1.2.2.1, h.2.2.2.2.1.1.2.2.2, h.2.2.2.2.1.2.1, h.2.2.2.2.1.2.2.1, h.2.2.2.2.1.2.2.2⟩
theorem ESt.done {w V : World} {B len b : Nat} {e : En} (h : ESt w B len b e V) {x y z : Value} :
    Src (((V.setCell ⟨w.heap.size, 0, none⟩ x).setCell ⟨w.heap.size, 1, none⟩ y).setCell ⟨w.heap.size, 2, none⟩ z) B len ∧ w.grownBy (((V.setCell ⟨w.heap.size, 0, none⟩ x).setCell ⟨w.heap.size, 1, none⟩ y).setCell ⟨w.heap.size, 2, none⟩ z) (some B) :=
  ⟨((h.1.set1 h.2.2.1 _).set1 h.2.2.1 _).set1 h.2.2.1 _, grown_set1 (grown_set1 (grown_set1 h.2.1 (Nat.le_refl _) _) (Nat.le_refl _) _) (Nat.le_refl _) _⟩
theorem close_made {w V : World} {B len P b q1 q2 : Nat} {c : Int} (h : DSt w B len P V) (hN : NB w V b) (h1 : q1 < 9) (h2 : q2 < 9) :
    ∃ (b' : Nat) (o n : ByteArray) (c' : Int), Value.pointer (some ⟨b, 0, none⟩) = .pointer (some ⟨b', 0, none⟩) ∧ o.size ≤ 8 ∧ n.size ≤ 8 ∧ Hid (ESt w B len b' (o, n, c') (((V.setCell ⟨b, 0, none⟩ (.string (tab9 q1))).setCell ⟨b, 1, none⟩ (.string (tab9 q2))).setCell ⟨b, 2, none⟩ (.int .i64 c))) :=
  ⟨b, tab9 q1, tab9 q2, c, rfl, tab9_size _ h1, tab9_size _ h2, Lib.hid (ESt.made h hN _ _ _)⟩
theorem close_fresh {w V : World} {B len P q1 q2 : Nat} {c : Int} (h : DSt w B len P V) (h1 : q1 < 9) (h2 : q2 < 9) :
    ∃ (b' : Nat) (o n : ByteArray) (c' : Int), Value.pointer (some ⟨V.heap.size, 0, none⟩) = .pointer (some ⟨b', 0, none⟩) ∧ o.size ≤ 8 ∧ n.size ≤ 8 ∧ Hid (ESt w B len b' (o, n, c') (V.alloc (.cells #[.string (tab9 q1), .string (tab9 q2), .int .i64 c] 60))) :=
  ⟨V.heap.size, tab9 q1, tab9 q2, c, rfl, tab9_size _ h1, tab9_size _ h2, Lib.hid (ESt.fresh h _ _ _)⟩
theorem dst_zero {w : World} {B len : Nat} (h : Src w B len) (hlt : B < w.heap.size) : DSt w B len (w.heap.size + 1) ((w.alloc (.cells #[.string ⟨#[]⟩, .string ⟨#[]⟩, .int .i64 0] 60)).alloc (.cells #[.string ⟨#[]⟩, .string ⟨#[97]⟩, .string ⟨#[101]⟩, .string ⟨#[115]⟩, .string ⟨#[98, 121]⟩, .string ⟨#[116, 111, 110]⟩, .string ⟨#[101, 110]⟩, .string ⟨#[114, 105]⟩, .string ⟨#[110, 97]⟩] 9)) := by
  have hn : (w.alloc (.cells #[.string ⟨#[]⟩, .string ⟨#[]⟩, .int .i64 0] 60)).heap.size = w.heap.size + 1 := by simp
  refine ⟨(h.alloc _).alloc _, (World.grownBy_alloc w _ (some B)).trans (World.grownBy_alloc _ _ (some B)), hlt, ⟨by omega, by simp⟩, ?_, (EB.new w zeroE).alloc _⟩
  intro i hi
  have h9 := tab9_at (w.alloc (.cells #[.string ⟨#[]⟩, .string ⟨#[]⟩, .int .i64 0] 60)) i hi
  rw [hn] at h9
  exact h9

set_option maxHeartbeats 60000000 in
set_option maxRecDepth 100000 in
theorem cEndD (B len : Nat) (w : World) (hlen : len ≤ 1048576) (h : Src w B len) :
    Calls Try.prog 77 #[.pointer (some ⟨B, 0, none⟩)] w (EndPost w B len) := by
  have hBl := h.lt
  have D0 := Lib.hid (dst_zero h hBl)
  have CN : Hid (∀ (V : World) (n : Int), 1 ≤ n → n ≤ 100 → DSt w B len (w.heap.size + 1) V → Calls Try.prog 46 #[.pointer (some ⟨B, 0, none⟩), .int .i64 n] V (fun e V' => ∃ q : Nat, (q : Int) < n ∧ e = .returned (.int .i64 (q : Int)) ∧ DSt w B len (w.heap.size + 1) V' ∧ ∀ b, NB w V b → NB w V' b)) := Lib.hid (fun V n h0 h1 hD => (cNext B len n V hlen (by omega) (by omega) hD.1).mono (by
    rintro e V' ⟨r, hr0, hr1, rfl, hS, hg⟩
    exact ⟨r.toNat, by omega, by congr 2; omega, hD.next hS hg, fun b hN => ⟨hN.1, hN.2.grown hg (by have := hN.1; have := hD.2.2.1; omega)⟩⟩))
  clear h
  go_enter Try.func77, Try.ntmps77
  go_wp2_with fail
  have D1 := Lib.hid D0.out.drew
  have D2 := Lib.hid (D0.out.alloc (.cells #[.string ⟨#[]⟩, .string ⟨#[]⟩, .int .i64 0] 60)).drew
  have D0N : Hid (NB w (((w.alloc (.cells #[.string ⟨#[]⟩, .string ⟨#[]⟩, .int .i64 0] 60)).alloc (.cells #[.string ⟨#[]⟩, .string ⟨#[97]⟩, .string ⟨#[101]⟩, .string ⟨#[115]⟩, .string ⟨#[98, 121]⟩, .string ⟨#[116, 111, 110]⟩, .string ⟨#[101, 110]⟩, .string ⟨#[114, 105]⟩, .string ⟨#[110, 97]⟩] 9)).alloc (.cells #[.string ⟨#[]⟩, .string ⟨#[]⟩, .int .i64 0] 60)).drew (w.heap.size + 1 + 1)) := Lib.hid (by
    have h9 := (NB.new D0.out).drew
    have hsz : ((w.alloc (.cells #[.string ⟨#[]⟩, .string ⟨#[]⟩, .int .i64 0] 60)).alloc (.cells #[.string ⟨#[]⟩, .string ⟨#[97]⟩, .string ⟨#[101]⟩, .string ⟨#[115]⟩, .string ⟨#[98, 121]⟩, .string ⟨#[116, 111, 110]⟩, .string ⟨#[101, 110]⟩, .string ⟨#[114, 105]⟩, .string ⟨#[110, 97]⟩] 9)).heap.size = w.heap.size + 1 + 1 := by simp
    rw [hsz] at h9
    exact h9)
  have hTd := D1.out.2.2.2.2.1
  go_cut [4] from 6 to 19 (fun t wx => ∃ (b : Nat) (o n : ByteArray) (c : Int), t = .pointer (some ⟨b, 0, none⟩) ∧ o.size ≤ 8 ∧ n.size ≤ 8 ∧ Hid (ESt w B len b (o, n, c) wx))
  case first =>
    go_region_held3 (fun W => (∀ i, i < 9 → W.cell? ⟨w.heap.size + 1, i, none⟩ = some (.string (tab9 i))) ∧ DSt w B len (w.heap.size + 1) W)
      (first | exact S9.of D1.out | exact S9.of D2.out | exact S9.of hD | exact S9.of (DSt.alloc (S9.get (by assumption)) _) | exact S9.of (DSt.alloc hD _) | exact S9.of (DSt.alloc D1.out _) | exact S9.of (DSt.set1 (DSt.set1 (DSt.set1 hD hN.1 _) hN.1 _) hN.1 _))
      (first | ((go_at_call 46; (refine (CN.out _ _ (by omega) (by omega) (S9.get (by assumption))).mono ?_); (rintro e V ⟨q, hq, rfl, hD2, hK⟩); (first | have hN := hK _ hN | have hN := hK _ (NB.new hD) | have hN := hK _ D0N.out | skip); (have hD := hD2); (have hqi : (q : Int) < 9 := by omega); (have hq0 : (0 : Int) ≤ (q : Int) := Int.natCast_nonneg _); (have hq9 : q < 9 := by omega); (first | (have hZ := NB.cells hN; obtain ⟨hNs, hNa, hNb, hNc, hNf, hNg, hNh⟩ := hZ) | skip))))
    all_goals (go_wp2_with fail; go_meet)
    all_goals (first | with_reducible exact close_fresh hD (by assumption) (by assumption) | with_reducible exact close_made hD hN (by assumption) (by assumption))
  case rest =>
    obtain ⟨b, o, n, c, rfl, ho, hn, HE⟩ := hcut
    clear D0 D1 D2 D0N CN hTd
    have C3 := Lib.hid (cNext B len 30 _ hlen (by omega) (by omega) HE.out.1)
    go_wp2_with fail
    refine C3.out.mono ?_
    rintro e w3 ⟨r, hr0, hr1, rfl, hS3, g3⟩
    have HE3 := Lib.hid (HE.out.next hS3 g3)
    clear hS3 g3 C3 hr1 HE
    by_cases h0 : r = 0
    · have z0 : (r == 0) = true := by simp [h0]
      have hl3 := HE3.out.1.lt
      have HR := Lib.hid (rowLit w3 [0, 9, 10] 0 10 (by decide) 2)
      have HEA := Lib.hid (HE3.out.alloc (.cells (([0, 9, 10] : List Int).map (Value.int .i64)).toArray 2))
      have C4 := Lib.hid (cPick B len w3.heap.size 3 3 0 10 _ hlen (by omega) (by omega) (by omega) HR.out HEA.out.1)
      clear h0
      go_wp2_with fail
      refine C4.out.mono ?_
      rintro e w4 ⟨u, hu0, hu1, rfl, hS4, g4⟩
      have HE4 := Lib.hid (HEA.out.next hS4 g4)
      clear hS4 g4 C4 HR HEA HE3
      obtain ⟨a0, a1, a2, f0, f1, f2, d0, d1, d2, e0, e1, e2⟩ := HE4.out.cells
      have HE5 := Lib.hid (HE4.out.set2 u)
      obtain ⟨a50, a51, a52, f50, f51, f52, d50, d51, d52, e50, e51, e52⟩ := HE5.out.cells
      go_wp2_with fail
      refine bodyPost_ret ?_ rfl ⟨o, n, u, ho, hn, rfl, HE5.out.done.1, HE5.out.done.2⟩
      first | (simp [results, Try.results77, go_sem, d50, d51, d52]; done) | (simp [results, Try.results77, go_sem, d50, d51, d52]; rfl)
    · have z0 : (r == 0) = false := by rw [beq_eq_false_iff_ne]; exact h0
      clear h0
      obtain ⟨a0, a1, a2, f0, f1, f2, d0, d1, d2, e0, e1, e2⟩ := HE3.out.cells
      go_wp2_with fail
      refine bodyPost_ret ?_ rfl ⟨o, n, c, ho, hn, rfl, HE3.out.done.1, HE3.out.done.2⟩
      first | (simp [results, Try.results77, go_sem, d0, d1, d2]; done) | (simp [results, Try.results77, go_sem, d0, d1, d2]; rfl)
end Go.Proofs.Ytippjomkbpiliaa
