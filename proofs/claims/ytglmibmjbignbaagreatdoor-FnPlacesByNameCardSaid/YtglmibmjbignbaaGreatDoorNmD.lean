/-
  The contract of spec.l09Draw: a drawn name. Its first region draws its order: by facts (Reg).
-/
import Derived.Test.YtglmibmjbignbaaGreatDoorMy1
import Derived.Test.YtglmibmjbignbaaGreatDoorMy4
import Derived.Test.YtglmibmjbignbaaGreatDoorMy5
import Derived.Test.YtglmibmjbignbaaGreatDoorMy7
import Derived.Test.YtglmibmjbignbaaGreatDoorMy3
import Derived.Deep.DeepCutAuto
import Derived.Deep.CutRange
namespace Go.Proofs.YtglmibmjbignbaaGreatDoor
set_option linter.unusedVariables false
open Go.RowKit

def tab4N (i : Nat) : ByteArray := [(⟨#[101, 110]⟩ : ByteArray), ⟨#[100, 101]⟩, ⟨#[102, 114]⟩, ⟨#[108, 97, 116]⟩].getD i ByteArray.empty
def row4N : Array Value := #[.string ⟨#[101, 110]⟩, .string ⟨#[100, 101]⟩, .string ⟨#[102, 114]⟩, .string ⟨#[108, 97, 116]⟩]
theorem row4N_at (i : Nat) (h : i < 4) : row4N[i]? = some (.string (tab4N i)) := by
  match i, h with
  | 0, _ => rfl
  | 1, _ => rfl
  | 2, _ => rfl
  | 3, _ => rfl
theorem tab4N_size (i : Nat) (h : i < 4) : (tab4N i).size ≤ 8 := by
  match i, h with
  | 0, _ => decide
  | 1, _ => decide
  | 2, _ => decide
  | 3, _ => decide
def nums4N : Array Value := #[.int .i64 0, .int .i64 0, .int .i64 1, .int .i64 2]
/-- A name of bounded size. -/
def Small (x : Nm) : Prop := x.t.size ≤ 2000 ∧ x.l.size ≤ 8 ∧ (-4000 ≤ x.s ∧ x.s ≤ 4000) ∧ (-4000 ≤ x.f ∧ x.f ≤ 4000) ∧ (-4000 ≤ x.u ∧ x.u ≤ 4000)
def zeroN : Nm := ⟨⟨#[]⟩, ⟨#[]⟩, 0, 0, 0⟩
def celN (x : Nm) : Array Value := #[.string x.t, .string x.l, .int .i64 x.s, .int .i64 x.f, .int .i64 x.u]
theorem tab_ne {V : World} {g g' : Nat} {t t' : TypeId} {cs cs' : Array Value} (h : TabAt V g t cs) (h' : TabAt V g' t' cs') (ht : t ≠ t') : g ≠ g' := by
  rintro rfl
  unfold TabAt at h h'
  rw [h] at h'
  injection h' with h'
  injection h' with h1 h2 h3
  exact ht h2
theorem Src.tab {V : World} {B len : Nat} (h : Src V B len) : ∃ cs, TabAt V B 131 cs := by
  obtain ⟨A, cap, a, s, hT, _⟩ := h
  exact ⟨_, hT⟩
theorem tab_src {V V' : World} {B len g : Nat} {t : TypeId} {cs : Array Value} (h : TabAt V g t cs) (hS : Src V B len) (ht : t ≠ 131) (hg : V.grownBy V' (some B)) : TabAt V' g t cs := by
  obtain ⟨ds, hB⟩ := hS.tab
  exact (hg.block g h.lt (fun e => tab_ne h hB ht (by injection e))).trans h
theorem tab_other {V : World} {g b i : Nat} {t : TypeId} {cs : Array Value} {u : Value} (h : TabAt V g t cs) (hne : g ≠ b) : TabAt (V.setCell ⟨b, i, none⟩ u) g t cs := (Below.heap_setCell _ _ _ _ hne).trans h
/-- On the way: the source, the box of the result. -/
def WN (w : World) (B len : Nat) (V : World) : Prop := Src V B len ∧ w.grownBy V (some B) ∧ B < w.heap.size ∧ TabAt V w.heap.size 100 (celN zeroN)
theorem WN.drew {w V : World} {B len : Nat} (h : WN w B len V) : WN w B len V.drew := ⟨h.1, ⟨h.2.1.os, h.2.1.tape, h.2.1.output, h.2.1.size, h.2.1.block⟩, h.2.2.1, h.2.2.2⟩
theorem WN.next {w V V' : World} {B len : Nat} (h : WN w B len V) (hS : Src V' B len) (hg : V.grownBy V' (some B)) : WN w B len V' :=
  ⟨hS, h.2.1.trans hg, h.2.2.1, tab_src h.2.2.2 h.1 (by decide) hg⟩
theorem WN.alloc {w V : World} {B len : Nat} (h : WN w B len V) (o : Obj) : WN w B len (V.alloc o) := h.next (h.1.alloc o) (World.grownBy_alloc V o (some B))
/-- Five stores into the box of a name. -/
def put5 (V : World) (b : Nat) (x : Nm) : World := ((((V.setCell ⟨b, 0, none⟩ (.string x.t)).setCell ⟨b, 1, none⟩ (.string x.l)).setCell ⟨b, 2, none⟩ (.int .i64 x.s)).setCell ⟨b, 3, none⟩ (.int .i64 x.f)).setCell ⟨b, 4, none⟩ (.int .i64 x.u)
theorem list5 : ∀ (l : List Value), l.length = 5 → ∃ a0 a1 a2 a3 a4, l = [a0, a1, a2, a3, a4]
  | [], h => by simp at h
  | [a], h => by simp at h
  | [a, b], h => by simp at h
  | [a, b, c], h => by simp at h
  | [a, b, c, d], h => by simp at h
  | [a, b, c, d, e], _ => ⟨a, b, c, d, e, rfl⟩
  | a :: b :: c :: d :: e :: f :: l, h => by simp at h
theorem arr5 {cs : Array Value} (h : cs.size = 5) : ∃ a0 a1 a2 a3 a4, cs = #[a0, a1, a2, a3, a4] := by
  obtain ⟨a0, a1, a2, a3, a4, e⟩ := list5 cs.toList (by simpa using h)
  exact ⟨a0, a1, a2, a3, a4, by rw [← Array.toArray_toList (xs := cs), e]⟩
theorem put5_same {V : World} {b : Nat} {t : TypeId} {cs : Array Value} {x : Nm} (h : TabAt V b t cs) (hs : cs.size = 5) : TabAt (put5 V b x) b t (celN x) := by
  obtain ⟨a0, a1, a2, a3, a4, rfl⟩ := arr5 hs
  exact ((((h.set 0 (.string x.t)).set 1 (.string x.l)).set 2 (.int .i64 x.s)).set 3 (.int .i64 x.f)).set 4 (.int .i64 x.u)
theorem put5_other {V : World} {g b : Nat} {t : TypeId} {cs : Array Value} {x : Nm} (h : TabAt V g t cs) (hne : g ≠ b) : TabAt (put5 V b x) g t cs := tab_other (tab_other (tab_other (tab_other (tab_other h hne) hne) hne) hne) hne
theorem put5_src {V : World} {B len b : Nat} {x : Nm} (h : Src V B len) (hb : B < b) : Src (put5 V b x) B len := ((((h.set1 hb _).set1 hb _).set1 hb _).set1 hb _).set1 hb _
theorem put5_grown {w V : World} {B b : Nat} {x : Nm} (h : w.grownBy V (some B)) (hb : w.heap.size ≤ b) : w.grownBy (put5 V b x) (some B) := grown_set1 (grown_set1 (grown_set1 (grown_set1 (grown_set1 h hb _) hb _) hb _) hb _) hb _
theorem WN.put {w V : World} {B len b : Nat} {x : Nm} (h : WN w B len V) (hb : w.heap.size < b) : WN w B len (put5 V b x) :=
  ⟨put5_src h.1 (by have := h.2.2.1; omega), put5_grown h.2.1 (Nat.le_of_lt hb), h.2.2.1, put5_other h.2.2.2 (by omega)⟩
theorem tab5 {V : World} {b : Nat} {t : TypeId} {cs : Array Value} (h : TabAt V b t cs) (hs : cs.size = 5) : ∃ v0 v1 v2 v3 v4, cs = #[v0, v1, v2, v3, v4] ∧
    V.cell? ⟨b, 0, none⟩ = some v0 ∧ V.cell? ⟨b, 1, none⟩ = some v1 ∧ V.cell? ⟨b, 2, none⟩ = some v2 ∧ V.cell? ⟨b, 3, none⟩ = some v3 ∧ V.cell? ⟨b, 4, none⟩ = some v4 := by
  obtain ⟨a0, a1, a2, a3, a4, rfl⟩ := arr5 hs
  exact ⟨a0, a1, a2, a3, a4, rfl, (h.cell 0).trans rfl, (h.cell 1).trans rfl, (h.cell 2).trans rfl, (h.cell 3).trans rfl, (h.cell 4).trans rfl⟩

def slN (j : Nat) : Nat := [4, 5, 6, 7, 8, 9, 10, 11, 12, 13, 14, 15, 16, 3, 3].getD j 0
/-- What each operation of the region leaves in its slot. -/
def GN (w : World) (B : Nat) : Nat → Value → World → Prop
  | 0, v, _ => v = .pointer (some ⟨B, 0, none⟩)
  | 1, v, _ => ∃ t : ByteArray, v = .string t ∧ t.size ≤ 2000
  | 2, v, V => ∃ P, v = .slice (some ⟨P, 0, none⟩) 4 4 ∧ TabAt V P 9 row4N
  | 3, v, _ => v = .pointer (some ⟨B, 0, none⟩)
  | 4, v, _ => ∃ q : Nat, v = .int .i64 (q : Int) ∧ q < 4
  | 5, v, V => ∃ P q : Nat, v = .pointer (some ⟨P, q, none⟩) ∧ q < 4 ∧ TabAt V P 9 row4N
  | 6, v, _ => ∃ t : ByteArray, v = .string t ∧ t.size ≤ 8
  | 7, v, _ => v = .pointer (some ⟨B, 0, none⟩)
  | 8, v, V => ∃ P, v = .slice (some ⟨P, 0, none⟩) 4 4 ∧ TabAt V P 2 nums4N
  | 9, v, _ => ∃ r : Int, v = .int .i64 r ∧ 0 ≤ r ∧ r ≤ 2
  | 10, v, _ => v = .pointer (some ⟨B, 0, none⟩)
  | 11, v, _ => ∃ f u : Int, v = .agg #[.int .i64 f, .int .i64 u] ∧ (-4000 ≤ f ∧ f ≤ 4000) ∧ (-4000 ≤ u ∧ u ≤ 4000)
  | 12, v, _ => ∃ x : Nm, v = nmA x ∧ Small x
  | 13, v, V => ∃ (b : Nat) (cs : Array Value), v = .pointer (some ⟨b, 0, none⟩) ∧ w.heap.size < b ∧ cs.size = 5 ∧ TabAt V b 100 cs
  | 14, v, V => ∃ (b : Nat) (x : Nm), v = .pointer (some ⟨b, 0, none⟩) ∧ w.heap.size < b ∧ Small x ∧ TabAt V b 100 (celN x)
  | _, _, _ => True
theorem GN.keep {w V V' : World} {B : Nat} {v : Value} (hT : ∀ (g : Nat) (t : TypeId) (cs : Array Value), t ≠ 131 → TabAt V g t cs → TabAt V' g t cs) (j : Nat) (h : GN w B j v V) : GN w B j v V' := by
  rcases j with _ | _ | _ | _ | _ | _ | _ | _ | _ | _ | _ | _ | _ | _ | _ | j
  · simp only [GN] at h ⊢; exact h
  · simp only [GN] at h ⊢; exact h
  · obtain ⟨P, h1, h2⟩ := h; exact ⟨P, h1, hT _ _ _ (by decide) h2⟩
  · simp only [GN] at h ⊢; exact h
  · simp only [GN] at h ⊢; exact h
  · obtain ⟨P, q, h1, h3, h2⟩ := h; exact ⟨P, q, h1, h3, hT _ _ _ (by decide) h2⟩
  · simp only [GN] at h ⊢; exact h
  · simp only [GN] at h ⊢; exact h
  · obtain ⟨P, h1, h2⟩ := h; exact ⟨P, h1, hT _ _ _ (by decide) h2⟩
  · simp only [GN] at h ⊢; exact h
  · simp only [GN] at h ⊢; exact h
  · simp only [GN] at h ⊢; exact h
  · simp only [GN] at h ⊢; exact h
  · obtain ⟨b, cs, h1, h3, h4, h2⟩ := h; exact ⟨b, cs, h1, h3, h4, hT _ _ _ (by decide) h2⟩
  · obtain ⟨b, x, h1, h3, h4, h2⟩ := h; exact ⟨b, x, h1, h3, h4, hT _ _ _ (by decide) h2⟩
  · trivial
theorem GN.put {w V : World} {B b : Nat} {x : Nm} {v : Value} {cs : Array Value} (hb : w.heap.size < b) (hB : TabAt V b 100 cs) (hz : cs.size = 5) (j : Nat) (h14 : j ≠ 14) (hv : j = 13 → v = .pointer (some ⟨b, 0, none⟩)) (h : GN w B j v V) : GN w B j v (put5 V b x) := by
  rcases j with _ | _ | _ | _ | _ | _ | _ | _ | _ | _ | _ | _ | _ | _ | _ | j
  · simp only [GN] at h ⊢; exact h
  · simp only [GN] at h ⊢; exact h
  · obtain ⟨P, h1, h2⟩ := h; exact ⟨P, h1, put5_other h2 (tab_ne h2 hB (by decide))⟩
  · simp only [GN] at h ⊢; exact h
  · simp only [GN] at h ⊢; exact h
  · obtain ⟨P, q, h1, h3, h2⟩ := h; exact ⟨P, q, h1, h3, put5_other h2 (tab_ne h2 hB (by decide))⟩
  · simp only [GN] at h ⊢; exact h
  · simp only [GN] at h ⊢; exact h
  · obtain ⟨P, h1, h2⟩ := h; exact ⟨P, h1, put5_other h2 (tab_ne h2 hB (by decide))⟩
  · simp only [GN] at h ⊢; exact h
  · simp only [GN] at h ⊢; exact h
  · simp only [GN] at h ⊢; exact h
  · simp only [GN] at h ⊢; exact h
  · exact ⟨b, celN x, hv rfl, hb, rfl, put5_same hB hz⟩
  · exact absurd rfl h14
  · trivial
/-- The frame in the region, and the world. -/
def BN (w : World) (B len : Nat) (a : Act) (V : World) : Prop := (∃ u3 u4 u5 u6 u7 u8 u9 u10 u11 u12 u13 u14 u15 u16 : Value, a = { tmps := List.toArray (.pointer (some ⟨B, 0, none⟩) :: undef :: .pointer (some ⟨w.heap.size, 0, none⟩) :: u3 :: u4 :: u5 :: u6 :: u7 :: u8 :: u9 :: u10 :: u11 :: u12 :: u13 :: u14 :: u15 :: u16 :: undef :: undef :: undef :: undef :: undef :: undef :: undef :: undef :: undef :: undef :: undef :: undef :: undef :: undef :: undef :: undef :: undef :: undef :: undef :: undef :: undef :: undef :: undef :: undef :: undef :: undef :: undef :: []), defers := [] }) ∧ WN w B len V
def FN9 (w : World) (B : Nat) (j : Nat) (a : Act) (V : World) : Prop := ∃ v, a.tmps[slN j]? = some v ∧ GN w B j v V
theorem nums4N_row {V : World} {P : Nat} (h : TabAt V P 2 nums4N) : NumRow V P 4 0 2 := by
  refine ⟨h.lt, fun j hj => ?_⟩
  match j, hj with
  | 0, _ => exact ⟨0, by omega, by omega, (h.cell 0).trans rfl⟩
  | 1, _ => exact ⟨0, by omega, by omega, (h.cell 1).trans rfl⟩
  | 2, _ => exact ⟨1, by omega, by omega, (h.cell 2).trans rfl⟩
  | 3, _ => exact ⟨2, by omega, by omega, (h.cell 3).trans rfl⟩
/-- Behind the region: the box of the name. -/
def NS (w : World) (B len b : Nat) (x : Nm) (V : World) : Prop := WN w B len V ∧ w.heap.size < b ∧ TabAt V b 100 (celN x)
theorem NS.src {w V : World} {B len b : Nat} {x : Nm} (h : NS w B len b x V) : Src V B len := h.1.1
theorem NS.next {w V V' : World} {B len b : Nat} {x : Nm} (h : NS w B len b x V) (hS : Src V' B len) (hg : V.grownBy V' (some B)) : NS w B len b x V' := ⟨h.1.next hS hg, h.2.1, tab_src h.2.2 h.1.1 (by decide) hg⟩
theorem NS.alloc {w V : World} {B len b : Nat} {x : Nm} (h : NS w B len b x V) (o : Obj) : NS w B len b x (V.alloc o) := h.next (h.1.1.alloc o) (World.grownBy_alloc V o (some B))
theorem WN.set1 {w V : World} {B len b i : Nat} {u : Value} (h : WN w B len V) (hb : w.heap.size < b) : WN w B len (V.setCell ⟨b, i, none⟩ u) :=
  ⟨h.1.set1 (by have := h.2.2.1; omega) _, grown_set1 h.2.1 (Nat.le_of_lt hb) _, h.2.2.1, tab_other h.2.2.2 (by omega)⟩
theorem NS.set0 {w V : World} {B len b : Nat} {x : Nm} (h : NS w B len b x V) (t : ByteArray) : NS w B len b ⟨t, x.l, x.s, x.f, x.u⟩ (V.setCell ⟨b, 0, none⟩ (.string t)) := ⟨h.1.set1 h.2.1, h.2.1, h.2.2.set 0 _⟩
theorem NS.set1 {w V : World} {B len b : Nat} {x : Nm} (h : NS w B len b x V) (t : ByteArray) : NS w B len b ⟨x.t, t, x.s, x.f, x.u⟩ (V.setCell ⟨b, 1, none⟩ (.string t)) := ⟨h.1.set1 h.2.1, h.2.1, h.2.2.set 1 _⟩
theorem NS.set2 {w V : World} {B len b : Nat} {x : Nm} (h : NS w B len b x V) (t : Int) : NS w B len b ⟨x.t, x.l, t, x.f, x.u⟩ (V.setCell ⟨b, 2, none⟩ (.int .i64 t)) := ⟨h.1.set1 h.2.1, h.2.1, h.2.2.set 2 _⟩
theorem NS.set34 {w V : World} {B len b : Nat} {x : Nm} (h : NS w B len b x V) (f u : Int) : NS w B len b ⟨x.t, x.l, x.s, f, u⟩ ((V.setCell ⟨b, 3, none⟩ (.int .i64 f)).setCell ⟨b, 4, none⟩ (.int .i64 u)) := ⟨(h.1.set1 h.2.1).set1 h.2.1, h.2.1, (h.2.2.set 3 _).set 4 _⟩
theorem NS.cells {w V : World} {B len b : Nat} {x : Nm} (h : NS w B len b x V) :
    (V.cell? ⟨b, 0, none⟩ = some (.string x.t) ∧ V.cell? ⟨b, 1, none⟩ = some (.string x.l) ∧ V.cell? ⟨b, 2, none⟩ = some (.int .i64 x.s) ∧ V.cell? ⟨b, 3, none⟩ = some (.int .i64 x.f) ∧ V.cell? ⟨b, 4, none⟩ = some (.int .i64 x.u)) ∧
    (V.frozen? ⟨b, 0, none⟩ = false ∧ V.frozen? ⟨b, 1, none⟩ = false ∧ V.frozen? ⟨b, 2, none⟩ = false ∧ V.frozen? ⟨b, 3, none⟩ = false ∧ V.frozen? ⟨b, 4, none⟩ = false) ∧
    (V.cell? ⟨w.heap.size, 0, none⟩ = some (.string ⟨#[]⟩) ∧ V.cell? ⟨w.heap.size, 1, none⟩ = some (.string ⟨#[]⟩) ∧ V.cell? ⟨w.heap.size, 2, none⟩ = some (.int .i64 0) ∧ V.cell? ⟨w.heap.size, 3, none⟩ = some (.int .i64 0) ∧ V.cell? ⟨w.heap.size, 4, none⟩ = some (.int .i64 0)) ∧
    (V.frozen? ⟨w.heap.size, 0, none⟩ = false ∧ V.frozen? ⟨w.heap.size, 1, none⟩ = false ∧ V.frozen? ⟨w.heap.size, 2, none⟩ = false ∧ V.frozen? ⟨w.heap.size, 3, none⟩ = false ∧ V.frozen? ⟨w.heap.size, 4, none⟩ = false) :=
  ⟨⟨(h.2.2.cell 0).trans rfl, (h.2.2.cell 1).trans rfl, (h.2.2.cell 2).trans rfl, (h.2.2.cell 3).trans rfl, (h.2.2.cell 4).trans rfl⟩, ⟨h.2.2.frozen 0, h.2.2.frozen 1, h.2.2.frozen 2, h.2.2.frozen 3, h.2.2.frozen 4⟩,
    ⟨(h.1.2.2.2.cell 0).trans rfl, (h.1.2.2.2.cell 1).trans rfl, (h.1.2.2.2.cell 2).trans rfl, (h.1.2.2.2.cell 3).trans rfl, (h.1.2.2.2.cell 4).trans rfl⟩, ⟨h.1.2.2.2.frozen 0, h.1.2.2.2.frozen 1, h.1.2.2.2.frozen 2, h.1.2.2.2.frozen 3, h.1.2.2.2.frozen 4⟩⟩
/-- What the result box holds in the end. -/
theorem NS.done {w V : World} {B len b : Nat} {x : Nm} (h : NS w B len b x V) : (Src (put5 V w.heap.size x) B len ∧ w.grownBy (put5 V w.heap.size x) (some B)) ∧
    ((put5 V w.heap.size x).cell? ⟨w.heap.size, 0, none⟩ = some (.string x.t) ∧ (put5 V w.heap.size x).cell? ⟨w.heap.size, 1, none⟩ = some (.string x.l) ∧ (put5 V w.heap.size x).cell? ⟨w.heap.size, 2, none⟩ = some (.int .i64 x.s) ∧ (put5 V w.heap.size x).cell? ⟨w.heap.size, 3, none⟩ = some (.int .i64 x.f) ∧ (put5 V w.heap.size x).cell? ⟨w.heap.size, 4, none⟩ = some (.int .i64 x.u)) := by
  have hT := put5_same (x := x) h.1.2.2.2 rfl
  exact ⟨⟨put5_src h.1.1 h.1.2.2.1, put5_grown h.1.2.1 (Nat.le_refl _)⟩, (hT.cell 0).trans rfl, (hT.cell 1).trans rfl, (hT.cell 2).trans rfl, (hT.cell 3).trans rfl, (hT.cell 4).trans rfl⟩
def row4B : Array Value := #[.string ⟨#[101]⟩, .string ⟨#[101, 110, 103, 108]⟩, .string ⟨#[69, 78]⟩, .string ⟨#[97, 98, 99]⟩]
def tab4B (i : Nat) : ByteArray := [(⟨#[101]⟩ : ByteArray), ⟨#[101, 110, 103, 108]⟩, ⟨#[69, 78]⟩, ⟨#[97, 98, 99]⟩].getD i ByteArray.empty
theorem row4B_at (i : Nat) (h : i < 4) : row4B[i]? = some (.string (tab4B i)) := by
  match i, h with
  | 0, _ => rfl
  | 1, _ => rfl
  | 2, _ => rfl
  | 3, _ => rfl
theorem tab4B_size (i : Nat) (h : i < 4) : (tab4B i).size ≤ 8 := by
  match i, h with
  | 0, _ => decide
  | 1, _ => decide
  | 2, _ => decide
  | 3, _ => decide
/-- A drawn name. -/
def NmPost (w : World) (B len : Nat) (e : Ending) (w' : World) : Prop := ∃ x : Nm, e = .returned (nmA x) ∧ Small x ∧ Src w' B len ∧ w.grownBy w' (some B)

set_option maxHeartbeats 40000000 in
set_option maxRecDepth 100000 in
theorem cNmD (B len : Nat) (w : World) (hlen : len ≤ 1048576) (h : Src w B len) :
    Calls Tryz.prog 153 #[.pointer (some ⟨B, 0, none⟩)] w (NmPost w B len) := by
  have hBl := h.lt
  have CG := Lib.hid (fun (V : World) (hV : Src V B len) => cGoodPhrase B len V hlen hV)
  have CN := Lib.hid (fun (V : World) (n : Int) (hV : Src V B len) (h1 : -1000000000 ≤ n) (h2 : n ≤ 10000000000) => cNext B len n V hlen h1 h2 hV)
  have W0 : Hid (WN w B len (w.alloc (.cells #[.string ⟨#[]⟩, .string ⟨#[]⟩, .int .i64 0, .int .i64 0, .int .i64 0] 100))) := Lib.hid ⟨h.alloc _, World.grownBy_alloc w _ _, hBl, TabAt.new w _ _⟩
  clear h
  go_enter Tryz.func153, Tryz.ntmps153
  go_wp2_with fail
  go_cut [3] from 3 to 16 (fun t wx => ∃ (b : Nat) (x : Nm), t = .pointer (some ⟨b, 0, none⟩) ∧ w.heap.size < b ∧ Small x ∧ Hid (TabAt wx b 100 (celN x)) ∧ Hid (WN w B len wx))
  case first =>
    refine wp_region_facts (by kernel_rfl) ?_ (BN w B len) (FN9 w B) ?_ ?_ ?_
    · decide +kernel
    · exact ⟨⟨_, _, _, _, _, _, _, _, _, _, _, _, _, _, rfl⟩, W0.out.drew⟩
    · intro i o ho a V hB hD
      obtain ⟨⟨u3, u4, u5, u6, u7, u8, u9, u10, u11, u12, u13, u14, u15, u16, rfl⟩, hW⟩ := hB
      rcases i with _ | _ | _ | _ | _ | _ | _ | _ | _ | _ | _ | _ | _ | _ | _ | i
      · -- 0
        simp at ho
        subst ho
        refine wpOp_list (o := _) rfl rfl ?_
        go_wp2_with fail
        change (_ ∧ _ ∧ _)
        refine ⟨⟨⟨_, _, _, _, _, _, _, _, _, _, _, _, _, _, rfl⟩, hW⟩, ⟨_, rfl, rfl⟩, ?_⟩
        · intro j hj hnd hF
          obtain ⟨v9, k1, k2⟩ := hF
          refine ⟨v9, ?_, GN.keep (fun _ _ _ _ h => h) j k2⟩
          rcases j with _ | _ | _ | _ | _ | _ | _ | _ | _ | _ | _ | _ | _ | _ | _ | j
          all_goals first | exact k1 | exact absurd rfl hj | (exfalso; exact hnd _ rfl { on := 13, ground := .data } (by simp) rfl rfl)
      · -- 1
        simp at ho
        subst ho
        have d0 := hD { on := 0, ground := .data } (by simp) rfl
        obtain ⟨v0, q0, rfl⟩ := d0
        obtain rfl : u4 = _ := by simpa [slN] using q0
        refine wpOp_list (o := _) rfl rfl ?_
        go_wp2_with fail
        refine (CG.out _ hW.1).mono ?_
        rintro e V9 ⟨t9, ht9, rfl, hS9, g9⟩
        go_wp2_with fail
        change (_ ∧ _ ∧ _)
        refine ⟨⟨⟨_, _, _, _, _, _, _, _, _, _, _, _, _, _, rfl⟩, hW.next hS9 g9⟩, ⟨_, rfl, t9, rfl, by omega⟩, ?_⟩
        · intro j hj hnd hF
          obtain ⟨v9, k1, k2⟩ := hF
          refine ⟨v9, ?_, GN.keep (fun g t cs ht h => tab_src h hW.1 ht g9) j k2⟩
          rcases j with _ | _ | _ | _ | _ | _ | _ | _ | _ | _ | _ | _ | _ | _ | _ | j
          all_goals first | exact k1 | exact absurd rfl hj | (exfalso; exact hnd _ rfl { on := 13, ground := .data } (by simp) rfl rfl)
      · -- 2
        simp at ho
        subst ho
        refine wpOp_list (o := _) rfl rfl ?_
        go_wp2_with fail
        change (_ ∧ _ ∧ _)
        refine ⟨⟨⟨_, _, _, _, _, _, _, _, _, _, _, _, _, _, rfl⟩, hW.alloc _⟩, ⟨_, rfl, V.heap.size, rfl, TabAt.new V _ _⟩, ?_⟩
        · intro j hj hnd hF
          obtain ⟨v9, k1, k2⟩ := hF
          refine ⟨v9, ?_, GN.keep (fun g t cs ht h => h.alloc _) j k2⟩
          rcases j with _ | _ | _ | _ | _ | _ | _ | _ | _ | _ | _ | _ | _ | _ | _ | j
          all_goals first | exact k1 | exact absurd rfl hj | (exfalso; exact hnd _ rfl { on := 13, ground := .data } (by simp) rfl rfl)
      · -- 3
        simp at ho
        subst ho
        refine wpOp_list (o := _) rfl rfl ?_
        go_wp2_with fail
        change (_ ∧ _ ∧ _)
        refine ⟨⟨⟨_, _, _, _, _, _, _, _, _, _, _, _, _, _, rfl⟩, hW⟩, ⟨_, rfl, rfl⟩, ?_⟩
        · intro j hj hnd hF
          obtain ⟨v9, k1, k2⟩ := hF
          refine ⟨v9, ?_, GN.keep (fun _ _ _ _ h => h) j k2⟩
          rcases j with _ | _ | _ | _ | _ | _ | _ | _ | _ | _ | _ | _ | _ | _ | _ | j
          all_goals first | exact k1 | exact absurd rfl hj | (exfalso; exact hnd _ rfl { on := 13, ground := .data } (by simp) rfl rfl)
      · -- 4
        simp at ho
        subst ho
        have d3 := hD { on := 3, ground := .data } (by simp) rfl
        obtain ⟨v3, q3, rfl⟩ := d3
        obtain rfl : u7 = _ := by simpa [slN] using q3
        refine wpOp_list (o := _) rfl rfl ?_
        go_wp2_with fail
        refine (CN.out _ 4 hW.1 (by omega) (by omega)).mono ?_
        rintro e V9 ⟨r9, hr0, hr1, rfl, hS9, g9⟩
        obtain ⟨q9, rfl⟩ : ∃ q : Nat, r9 = q := ⟨r9.toNat, by omega⟩
        go_wp2_with fail
        change (_ ∧ _ ∧ _)
        refine ⟨⟨⟨_, _, _, _, _, _, _, _, _, _, _, _, _, _, rfl⟩, hW.next hS9 g9⟩, ⟨_, rfl, q9, rfl, by omega⟩, ?_⟩
        · intro j hj hnd hF
          obtain ⟨v9, k1, k2⟩ := hF
          refine ⟨v9, ?_, GN.keep (fun g t cs ht h => tab_src h hW.1 ht g9) j k2⟩
          rcases j with _ | _ | _ | _ | _ | _ | _ | _ | _ | _ | _ | _ | _ | _ | _ | j
          all_goals first | exact k1 | exact absurd rfl hj | (exfalso; exact hnd _ rfl { on := 13, ground := .data } (by simp) rfl rfl)
      · -- 5
        simp at ho
        subst ho
        have d2 := hD { on := 2, ground := .data } (by simp) rfl
        obtain ⟨v2, q2, ⟨P, rfl, hP⟩⟩ := d2
        obtain rfl : u6 = _ := by simpa [slN] using q2
        have d4 := hD { on := 4, ground := .data } (by simp) rfl
        obtain ⟨v4, q4, ⟨q, rfl, hq⟩⟩ := d4
        obtain rfl : u8 = _ := by simpa [slN] using q4
        refine wpOp_list (o := _) rfl rfl ?_
        have e1 : (0 : Int) ≤ (q : Int) := by omega
        have e2 : (q : Int) < 4 := by omega
        go_wp2_with fail
        change (_ ∧ _ ∧ _)
        refine ⟨⟨⟨_, _, _, _, _, _, _, _, _, _, _, _, _, _, rfl⟩, hW⟩, ⟨_, rfl, P, q, rfl, hq, hP⟩, ?_⟩
        · intro j hj hnd hF
          obtain ⟨v9, k1, k2⟩ := hF
          refine ⟨v9, ?_, GN.keep (fun _ _ _ _ h => h) j k2⟩
          rcases j with _ | _ | _ | _ | _ | _ | _ | _ | _ | _ | _ | _ | _ | _ | _ | j
          all_goals first | exact k1 | exact absurd rfl hj | (exfalso; exact hnd _ rfl { on := 13, ground := .data } (by simp) rfl rfl)
      · -- 6
        simp at ho
        subst ho
        have d5 := hD { on := 5, ground := .data } (by simp) rfl
        obtain ⟨v5, q5, ⟨P, q, rfl, hq, hP⟩⟩ := d5
        obtain rfl : u9 = _ := by simpa [slN] using q5
        refine wpOp_list (o := _) rfl rfl ?_
        have kc : V.cell? ⟨P, q, none⟩ = some (.string (tab4N q)) := (hP.cell q).trans (row4N_at q hq)
        go_wp2_with fail
        change (_ ∧ _ ∧ _)
        refine ⟨⟨⟨_, _, _, _, _, _, _, _, _, _, _, _, _, _, rfl⟩, hW⟩, ⟨_, rfl, tab4N q, rfl, tab4N_size q hq⟩, ?_⟩
        · intro j hj hnd hF
          obtain ⟨v9, k1, k2⟩ := hF
          refine ⟨v9, ?_, GN.keep (fun _ _ _ _ h => h) j k2⟩
          rcases j with _ | _ | _ | _ | _ | _ | _ | _ | _ | _ | _ | _ | _ | _ | _ | j
          all_goals first | exact k1 | exact absurd rfl hj | (exfalso; exact hnd _ rfl { on := 13, ground := .data } (by simp) rfl rfl)
      · -- 7
        simp at ho
        subst ho
        refine wpOp_list (o := _) rfl rfl ?_
        go_wp2_with fail
        change (_ ∧ _ ∧ _)
        refine ⟨⟨⟨_, _, _, _, _, _, _, _, _, _, _, _, _, _, rfl⟩, hW⟩, ⟨_, rfl, rfl⟩, ?_⟩
        · intro j hj hnd hF
          obtain ⟨v9, k1, k2⟩ := hF
          refine ⟨v9, ?_, GN.keep (fun _ _ _ _ h => h) j k2⟩
          rcases j with _ | _ | _ | _ | _ | _ | _ | _ | _ | _ | _ | _ | _ | _ | _ | j
          all_goals first | exact k1 | exact absurd rfl hj | (exfalso; exact hnd _ rfl { on := 13, ground := .data } (by simp) rfl rfl)
      · -- 8
        simp at ho
        subst ho
        refine wpOp_list (o := _) rfl rfl ?_
        go_wp2_with fail
        change (_ ∧ _ ∧ _)
        refine ⟨⟨⟨_, _, _, _, _, _, _, _, _, _, _, _, _, _, rfl⟩, hW.alloc _⟩, ⟨_, rfl, V.heap.size, rfl, TabAt.new V _ _⟩, ?_⟩
        · intro j hj hnd hF
          obtain ⟨v9, k1, k2⟩ := hF
          refine ⟨v9, ?_, GN.keep (fun g t cs ht h => h.alloc _) j k2⟩
          rcases j with _ | _ | _ | _ | _ | _ | _ | _ | _ | _ | _ | _ | _ | _ | _ | j
          all_goals first | exact k1 | exact absurd rfl hj | (exfalso; exact hnd _ rfl { on := 13, ground := .data } (by simp) rfl rfl)
      · -- 9
        simp at ho
        subst ho
        have d7 := hD { on := 7, ground := .data } (by simp) rfl
        obtain ⟨v7, q7, rfl⟩ := d7
        obtain rfl : u11 = _ := by simpa [slN] using q7
        have d8 := hD { on := 8, ground := .data } (by simp) rfl
        obtain ⟨v8, q8, ⟨P, rfl, hP⟩⟩ := d8
        obtain rfl : u12 = _ := by simpa [slN] using q8
        refine wpOp_list (o := _) rfl rfl ?_
        have hne : P ≠ B := by obtain ⟨ds, hd⟩ := hW.1.tab; exact tab_ne hP hd (by decide)
        go_wp2_with fail
        refine (cPick B len P 4 4 0 2 V hlen (by omega) (by omega) hne (nums4N_row hP) hW.1).mono ?_
        rintro e V9 ⟨r9, hr0, hr1, rfl, hS9, g9⟩
        go_wp2_with fail
        change (_ ∧ _ ∧ _)
        refine ⟨⟨⟨_, _, _, _, _, _, _, _, _, _, _, _, _, _, rfl⟩, hW.next hS9 g9⟩, ⟨_, rfl, r9, rfl, hr0, hr1⟩, ?_⟩
        · intro j hj hnd hF
          obtain ⟨v9, k1, k2⟩ := hF
          refine ⟨v9, ?_, GN.keep (fun g t cs ht h => tab_src h hW.1 ht g9) j k2⟩
          rcases j with _ | _ | _ | _ | _ | _ | _ | _ | _ | _ | _ | _ | _ | _ | _ | j
          all_goals first | exact k1 | exact absurd rfl hj | (exfalso; exact hnd _ rfl { on := 13, ground := .data } (by simp) rfl rfl)
      · -- 10
        simp at ho
        subst ho
        refine wpOp_list (o := _) rfl rfl ?_
        go_wp2_with fail
        change (_ ∧ _ ∧ _)
        refine ⟨⟨⟨_, _, _, _, _, _, _, _, _, _, _, _, _, _, rfl⟩, hW⟩, ⟨_, rfl, rfl⟩, ?_⟩
        · intro j hj hnd hF
          obtain ⟨v9, k1, k2⟩ := hF
          refine ⟨v9, ?_, GN.keep (fun _ _ _ _ h => h) j k2⟩
          rcases j with _ | _ | _ | _ | _ | _ | _ | _ | _ | _ | _ | _ | _ | _ | _ | j
          all_goals first | exact k1 | exact absurd rfl hj | (exfalso; exact hnd _ rfl { on := 13, ground := .data } (by simp) rfl rfl)
      · -- 11
        simp at ho
        subst ho
        have d10 := hD { on := 10, ground := .data } (by simp) rfl
        obtain ⟨v10, q10, rfl⟩ := d10
        obtain rfl : u14 = _ := by simpa [slN] using q10
        refine wpOp_list (o := _) rfl rfl ?_
        go_wp2_with fail
        refine (cGood2 B len V hlen hW.1.lt hW.1).mono ?_
        rintro e V9 ⟨f9, x9, hf0, hf1, hx0, hx1, rfl, hS9, g9⟩
        go_wp2_with fail
        change (_ ∧ _ ∧ _)
        refine ⟨⟨⟨_, _, _, _, _, _, _, _, _, _, _, _, _, _, rfl⟩, hW.next hS9 g9⟩, ⟨_, rfl, f9, x9, rfl, by omega, by omega⟩, ?_⟩
        · intro j hj hnd hF
          obtain ⟨v9, k1, k2⟩ := hF
          refine ⟨v9, ?_, GN.keep (fun g t cs ht h => tab_src h hW.1 ht g9) j k2⟩
          rcases j with _ | _ | _ | _ | _ | _ | _ | _ | _ | _ | _ | _ | _ | _ | _ | j
          all_goals first | exact k1 | exact absurd rfl hj | (exfalso; exact hnd _ rfl { on := 13, ground := .data } (by simp) rfl rfl)
      · -- 12
        simp at ho
        subst ho
        have d1 := hD { on := 1, ground := .data } (by simp) rfl
        obtain ⟨v1, q1, ⟨t, rfl, ht⟩⟩ := d1
        obtain rfl : u5 = _ := by simpa [slN] using q1
        have d6 := hD { on := 6, ground := .data } (by simp) rfl
        obtain ⟨v6, q6, ⟨l, rfl, hl⟩⟩ := d6
        obtain rfl : u10 = _ := by simpa [slN] using q6
        have d9 := hD { on := 9, ground := .data } (by simp) rfl
        obtain ⟨v9, q9, ⟨r, rfl, hr0, hr1⟩⟩ := d9
        obtain rfl : u13 = _ := by simpa [slN] using q9
        have d11 := hD { on := 11, ground := .data } (by simp) rfl
        obtain ⟨v11, q11, ⟨f, y, rfl, hf, hy⟩⟩ := d11
        obtain rfl : u15 = _ := by simpa [slN] using q11
        refine wpOp_list (o := _) rfl rfl ?_
        go_wp2_with fail
        change (_ ∧ _ ∧ _)
        refine ⟨⟨⟨_, _, _, _, _, _, _, _, _, _, _, _, _, _, rfl⟩, hW⟩, ⟨_, rfl, ⟨t, l, r, f, y⟩, rfl, ht, hl, (by show -4000 ≤ r ∧ r ≤ 4000; omega), hf, hy⟩, ?_⟩
        · intro j hj hnd hF
          obtain ⟨v9, k1, k2⟩ := hF
          refine ⟨v9, ?_, GN.keep (fun _ _ _ _ h => h) j k2⟩
          rcases j with _ | _ | _ | _ | _ | _ | _ | _ | _ | _ | _ | _ | _ | _ | _ | j
          all_goals first | exact k1 | exact absurd rfl hj | (exfalso; exact hnd _ rfl { on := 13, ground := .data } (by simp) rfl rfl)
      · -- 13
        simp at ho
        subst ho
        refine wpOp_list (o := _) rfl rfl ?_
        go_wp2_with fail
        change (_ ∧ _ ∧ _)
        refine ⟨⟨⟨_, _, _, _, _, _, _, _, _, _, _, _, _, _, rfl⟩, hW.alloc _⟩, ⟨_, rfl, V.heap.size, _, rfl, by have := hW.2.1.size; have := hW.2.2.2.lt; omega, rfl, TabAt.new V _ _⟩, ?_⟩
        · intro j hj hnd hF
          obtain ⟨v9, k1, k2⟩ := hF
          refine ⟨v9, ?_, GN.keep (fun g t cs ht h => h.alloc _) j k2⟩
          rcases j with _ | _ | _ | _ | _ | _ | _ | _ | _ | _ | _ | _ | _ | _ | _ | j
          all_goals first | exact k1 | exact absurd rfl hj | (exfalso; exact hnd _ rfl { on := 13, ground := .data } (by simp) rfl rfl)
      · -- 14
        simp at ho
        subst ho
        have d13 := hD { on := 13, ground := .data } (by simp) rfl
        obtain ⟨v13, q13, ⟨b, cs, rfl, hb, hz, hP⟩⟩ := d13
        obtain rfl : u3 = _ := by simpa [slN] using q13
        have d12 := hD { on := 12, ground := .data } (by simp) rfl
        obtain ⟨v12, q12, ⟨x, rfl, hx⟩⟩ := d12
        obtain rfl : u16 = _ := by simpa [slN] using q12
        refine wpOp_list (o := _) rfl rfl ?_
        obtain ⟨v0, v1, v2, v3, v4, rfl, c0, c1, c2, c3, c4⟩ := tab5 hP hz
        have f0 := hP.frozen 0
        have f1 := hP.frozen 1
        have f2 := hP.frozen 2
        have f3 := hP.frozen 3
        have f4 := hP.frozen 4
        go_wp2_with fail
        change (_ ∧ _ ∧ _)
        refine ⟨⟨⟨_, _, _, _, _, _, _, _, _, _, _, _, _, _, rfl⟩, WN.put (x := x) hW hb⟩, ⟨_, rfl, b, x, rfl, hb, hx, put5_same hP hz⟩, ?_⟩
        · intro j hj hnd hF
          obtain ⟨v9, k1, k2⟩ := hF
          refine ⟨v9, ?_, GN.put hb hP hz j (fun e => hj e) (fun e => by subst e; exact (Option.some.inj k1).symm) k2⟩
          rcases j with _ | _ | _ | _ | _ | _ | _ | _ | _ | _ | _ | _ | _ | _ | _ | j
          all_goals first | exact k1 | exact absurd rfl hj | (exfalso; exact hnd _ rfl { on := 13, ground := .data } (by simp) rfl rfl)
      · exfalso
        simp at ho
    · intro a V hB hF
      obtain ⟨⟨u3, u4, u5, u6, u7, u8, u9, u10, u11, u12, u13, u14, u15, u16, rfl⟩, hW⟩ := hB
      obtain ⟨v9, k1, b, x, rfl, hb, hx, hP⟩ := hF 14 (by decide)
      obtain rfl : u3 = _ := by simpa [slN] using k1
      go_wp2_with fail
      go_meet
      exact ⟨b, x, rfl, hb, hx, Lib.hid hP, Lib.hid hW⟩
  case rest =>
    obtain ⟨b, x, rfl, hb, hx, HP, HW⟩ := hcut
    have H0 : Hid (NS w B len b x wc) := Lib.hid ⟨HW.out, hb, HP.out⟩
    have hx1 := hx.1
    have hx2 := hx.2.1
    have hx3 := hx.2.2.1
    have hx4 := hx.2.2.2.1
    have hx5 := hx.2.2.2.2
    clear HP HW W0 CG
    go_wp2_with fail
    refine (CN.out _ 30 H0.out.src (by omega) (by omega)).mono ?_
    rintro e w3 ⟨r, hr0, hr1, rfl, hS3, g3⟩
    have H3 := Lib.hid (H0.out.next hS3 g3)
    clear hS3 g3 H0 hr1
    by_cases h0 : r = 0
    · subst h0
      have CP := Lib.hid (cDrawPhrase B len w3 hlen H3.out.src)
      go_wp2_with fail
      refine CP.out.mono ?_
      rintro e w4 ⟨t, ht, rfl, hS4, g4⟩
      have H4 := Lib.hid (H3.out.next hS4 g4)
      clear hS4 g4 H3 CP
      obtain ⟨⟨a0, a1, a2, a3, a4⟩, ⟨f0, f1, f2, f3, f4⟩, _⟩ := H4.out.cells
      have H5 := Lib.hid (H4.out.set0 t)
      go_wp2_with fail
      obtain ⟨⟨a0, a1, a2, a3, a4⟩, ⟨f0, f1, f2, f3, f4⟩, ⟨b0, b1, b2, b3, b4⟩, ⟨e0, e1, e2, e3, e4⟩⟩ := H5.out.cells
      have HD := Lib.hid H5.out.done
      obtain ⟨_, k0, k1, k2, k3, k4⟩ := HD.out
      unfold put5 at k0 k1 k2 k3 k4
      go_wp2_with fail
      refine bodyPost_ret ?_ rfl ⟨⟨t, x.l, x.s, x.f, x.u⟩, rfl, ⟨(by show t.size ≤ 2000; omega), hx2, hx3, hx4, hx5⟩, HD.out.1.1, HD.out.1.2⟩
      first | (simp [results, Tryz.results153, go_sem, k0, k1, k2, k3, k4]; done) | (simp [results, Tryz.results153, go_sem, k0, k1, k2, k3, k4]; rfl)
    have d0 : (r == 0) = false := by rw [beq_eq_false_iff_ne]; exact h0
    by_cases h1 : r = 1
    · subst h1
      have H4 := Lib.hid (H3.out.alloc (.cells row4B 9))
      have T4 := Lib.hid (TabAt.new w3 9 row4B)
      go_wp2_with fail
      refine (CN.out _ 4 H4.out.src (by omega) (by omega)).mono ?_
      rintro e w5 ⟨q0, hq0, hq1, rfl, hS5, g5⟩
      obtain ⟨q, rfl⟩ : ∃ q : Nat, q0 = q := ⟨q0.toNat, by omega⟩
      have hq : q < 4 := by omega
      have e1 : (q : Int) < 4 := by omega
      have H5 := Lib.hid (H4.out.next hS5 g5)
      have T5 := Lib.hid (tab_src T4.out H4.out.src (by decide) g5)
      have kc : w5.cell? ⟨w3.heap.size, q, none⟩ = some (.string (tab4B q)) := (T5.out.cell q).trans (row4B_at q hq)
      have hz := tab4B_size q hq
      clear hS5 g5 H4 T4 H3 hq1
      obtain ⟨⟨a0, a1, a2, a3, a4⟩, ⟨f0, f1, f2, f3, f4⟩, _⟩ := H5.out.cells
      have H6 := Lib.hid (H5.out.set1 (tab4B q))
      go_wp2_with fail
      obtain ⟨⟨a0, a1, a2, a3, a4⟩, ⟨f0, f1, f2, f3, f4⟩, ⟨b0, b1, b2, b3, b4⟩, ⟨e0, e1, e2, e3, e4⟩⟩ := H6.out.cells
      have HD := Lib.hid H6.out.done
      obtain ⟨_, k0, k1, k2, k3, k4⟩ := HD.out
      unfold put5 at k0 k1 k2 k3 k4
      go_wp2_with fail
      refine bodyPost_ret ?_ rfl ⟨⟨x.t, tab4B q, x.s, x.f, x.u⟩, rfl, ⟨hx1, hz, hx3, hx4, hx5⟩, HD.out.1.1, HD.out.1.2⟩
      first | (simp [results, Tryz.results153, go_sem, k0, k1, k2, k3, k4]; done) | (simp [results, Tryz.results153, go_sem, k0, k1, k2, k3, k4]; rfl)
    have d1 : (r == 1) = false := by rw [beq_eq_false_iff_ne]; exact h1
    by_cases h2 : r = 2
    · subst h2
      have H4 := Lib.hid (H3.out.alloc (.cells #[.int .i64 (-1), .int .i64 3] 2))
      have HR := Lib.hid (rowLit w3 [-1, 3] (-1) 3 (by decide) 2)
      have hne : w3.heap.size ≠ B := by have := H3.out.src.lt; omega
      have CP := Lib.hid (cPick B len w3.heap.size 2 2 (-1) 3 _ hlen (by omega) (by omega) hne HR.out H4.out.src)
      go_wp2_with fail
      refine CP.out.mono ?_
      rintro e w5 ⟨q, hq0, hq1, rfl, hS5, g5⟩
      have H5 := Lib.hid (H4.out.next hS5 g5)
      clear hS5 g5 H4 H3 HR CP
      obtain ⟨⟨a0, a1, a2, a3, a4⟩, ⟨f0, f1, f2, f3, f4⟩, _⟩ := H5.out.cells
      have H6 := Lib.hid (H5.out.set2 q)
      go_wp2_with fail
      obtain ⟨⟨a0, a1, a2, a3, a4⟩, ⟨f0, f1, f2, f3, f4⟩, ⟨b0, b1, b2, b3, b4⟩, ⟨e0, e1, e2, e3, e4⟩⟩ := H6.out.cells
      have HD := Lib.hid H6.out.done
      obtain ⟨_, k0, k1, k2, k3, k4⟩ := HD.out
      unfold put5 at k0 k1 k2 k3 k4
      go_wp2_with fail
      refine bodyPost_ret ?_ rfl ⟨⟨x.t, x.l, q, x.f, x.u⟩, rfl, ⟨hx1, hx2, (by show -4000 ≤ q ∧ q ≤ 4000; omega), hx4, hx5⟩, HD.out.1.1, HD.out.1.2⟩
      first | (simp [results, Tryz.results153, go_sem, k0, k1, k2, k3, k4]; done) | (simp [results, Tryz.results153, go_sem, k0, k1, k2, k3, k4]; rfl)
    have d2 : (r == 2) = false := by rw [beq_eq_false_iff_ne]; exact h2
    by_cases h3 : r = 3
    · subst h3
      have CP := Lib.hid (cDraw2 B len w3 hlen H3.out.src.lt H3.out.src)
      go_wp2_with fail
      refine CP.out.mono ?_
      rintro e w5 ⟨f, u, hf0, hf1, hu0, hu1, rfl, hS5, g5⟩
      have H5 := Lib.hid (H3.out.next hS5 g5)
      clear hS5 g5 H3 CP
      obtain ⟨⟨a0, a1, a2, a3, a4⟩, ⟨f0, f1, f2, f3, f4⟩, _⟩ := H5.out.cells
      have H6 := Lib.hid (H5.out.set34 f u)
      go_wp2_with fail
      obtain ⟨⟨a0, a1, a2, a3, a4⟩, ⟨f0, f1, f2, f3, f4⟩, ⟨b0, b1, b2, b3, b4⟩, ⟨e0, e1, e2, e3, e4⟩⟩ := H6.out.cells
      have HD := Lib.hid H6.out.done
      obtain ⟨_, k0, k1, k2, k3, k4⟩ := HD.out
      unfold put5 at k0 k1 k2 k3 k4
      go_wp2_with fail
      refine bodyPost_ret ?_ rfl ⟨⟨x.t, x.l, x.s, f, u⟩, rfl, ⟨hx1, hx2, hx3, (by show -4000 ≤ f ∧ f ≤ 4000; omega), (by show -4000 ≤ u ∧ u ≤ 4000; omega)⟩, HD.out.1.1, HD.out.1.2⟩
      first | (simp [results, Tryz.results153, go_sem, k0, k1, k2, k3, k4]; done) | (simp [results, Tryz.results153, go_sem, k0, k1, k2, k3, k4]; rfl)
    have d3 : (r == 3) = false := by rw [beq_eq_false_iff_ne]; exact h3
    obtain ⟨⟨a0, a1, a2, a3, a4⟩, ⟨f0, f1, f2, f3, f4⟩, ⟨b0, b1, b2, b3, b4⟩, ⟨e0, e1, e2, e3, e4⟩⟩ := H3.out.cells
    have HD := Lib.hid H3.out.done
    obtain ⟨_, k0, k1, k2, k3, k4⟩ := HD.out
    unfold put5 at k0 k1 k2 k3 k4
    go_wp2_with fail
    refine bodyPost_ret ?_ rfl ⟨x, rfl, hx, HD.out.1.1, HD.out.1.2⟩
    first | (simp [results, Tryz.results153, go_sem, k0, k1, k2, k3, k4]; done) | (simp [results, Tryz.results153, go_sem, k0, k1, k2, k3, k4]; rfl)
end Go.Proofs.YtglmibmjbignbaaGreatDoor
