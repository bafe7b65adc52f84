/-
  The contract of spec.l04DrawRule (begun).
-/
import Derived.Test.YtnfdbpfegmodcaaDrawTab
import Derived.Test.YtnfdbpfegmodcaaDamage
import Derived.Deep.RegionLaw
import Derived.Deep.AppendLies
namespace Go.Proofs.Ytnfdbpfegmodcaa
set_option linter.unusedVariables false
open Go.RowKit

/-- A drawn rule under way: a box P with a row of numbers of one's own and a short text. -/
structure DrawR (w : World) (B len P g k c : Nat) (xs : List Int) (t : ByteArray) (R : Nat) : Prop where
  box : PairW w P (.slice (some ⟨g, 0, none⟩) k c) (.string t)
  row : w.ownsRow (R + 1) 2 1 (.slice (some ⟨g, 0, none⟩) k c) k (intV xs)
  src : Src w B len
  res : PairW w R (.slice none 0 0) (.string ByteArray.empty)
  ne : P ≠ g ∧ P ≠ B ∧ B < P ∧ R ≠ g ∧ R ≠ P ∧ R ≠ B ∧ B < R
theorem Src.growD {w w' : World} {B len : Nat} {row : Option Nat} (h : Src w B len) (hg : w.grownBy w' row) (hne : ∀ x, row = some x → B < x) : Src w' B len := by
  obtain ⟨A, cap, a, s, hT, k1, k2, k3, k4, k5⟩ := h
  refine ⟨A, cap, a, s, (hg.block B hT.lt (fun e => by have := hne _ e.symm; omega)).trans hT, k1, k2, k3, k4, fun hp => ?_⟩
  obtain ⟨cb, co, hA, hlt, hbl, hc⟩ := k5 hp
  refine ⟨cb, co, hA, hlt, Nat.lt_of_lt_of_le hbl hg.size, fun j hj => ?_⟩
  obtain ⟨z, q0, q1, hz⟩ := hc j hj
  exact ⟨z, q0, q1, (World.cell?_of_block (a := ⟨cb, co + j, none⟩) (hg.block cb hbl (fun e => by have := hne _ e.symm; omega))).trans hz⟩
theorem Src.setD {w : World} {B len g : Nat} (h : Src w B len) (hB : B < g) (i : Nat) (x : Value) : Src (w.setCell ⟨g, i, none⟩ x) B len :=
  h.growD (row := some g) ⟨by first | rfl | simp, by first | rfl | simp, by first | rfl | simp, by simp, fun k hk hne => Below.heap_setCell _ _ _ k (by intro e; apply hne; rw [e])⟩ (fun x hx => by cases hx; exact hB)
theorem PairW.grownD {w w' : World} {P : Nat} {u v : Value} {row : Option Nat} (h : PairW w P u v) (hg : w.grownBy w' row) (hne : some P ≠ row) : PairW w' P u v := by
  have hbr := hg.block P h.1.1 hne
  exact ⟨⟨Nat.lt_of_lt_of_le h.1.1 hg.size, (World.cell?_of_block hbr).trans h.1.2.1, (World.cell?_of_block hbr).trans h.1.2.2⟩, (World.frozen?_of_block hbr).trans h.2.1, (World.frozen?_of_block hbr).trans h.2.2⟩
theorem DrawR.next {w w' : World} {B len P g k c R : Nat} {xs : List Int} {t : ByteArray} (h : DrawR w B len P g k c xs t R) (hS : Src w' B len) (hg : w.grownBy w' (some B)) : DrawR w' B len P g k c xs t R := by
  obtain ⟨h1, h2, h3, h4, n1, n2, n3, n4, n5, n6, n7⟩ := h
  have hgB := (h2.lt g rfl).1
  exact ⟨h1.grownD hg (by intro e; cases e; exact n2 rfl), h2.kept hg (.inr (by simp [Value.ownBlock]; omega)), hS, h4.grownD hg (by intro e; cases e; exact n6 rfl), n1, n2, n3, n4, n5, n6, n7⟩
theorem DrawR.put {w w' : World} {B len P g k c g' c' R : Nat} {xs : List Int} {x : Int} {t : ByteArray} (h : DrawR w B len P g k c xs t R) (hg : w.grownBy w' (some g)) (hor : g = g' ∨ g' = w.heap.size)
    (hrow : w'.ownsRow (R + 1) 2 1 (.slice (some ⟨g', 0, none⟩) (k + 1) c') (k + 1) (intV (xs ++ [x]))) : DrawR (w'.setCell ⟨P, 0, none⟩ (.slice (some ⟨g', 0, none⟩) (k + 1) c')) B len P g' (k + 1) c' (xs ++ [x]) t R := by
  obtain ⟨h1, h2, h3, h4, n1, n2, n3, n4, n5, n6, n7⟩ := h
  have hgB := (h2.lt g rfl).1
  have hP := h1.1.1
  have hR := h4.1.1
  have hPg : P ≠ g' := by rcases hor with rfl | rfl <;> omega
  have hRg : R ≠ g' := by rcases hor with rfl | rfl <;> omega
  have b1 := h1.grownD hg (by intro e; cases e; exact n1 rfl)
  have b4 := h4.grownD hg (by intro e; cases e; exact n4 rfl)
  have s3 : Src w' B len := h3.growD hg (fun x hx => by cases hx; omega)
  have hs0 := (World.ownsRow.lt hrow g' rfl)
  refine ⟨?_, ownsRow_block hrow (Below.heap_setCell _ _ _ _ (by exact fun e => hPg e.symm)), s3.setD n3 0 _, ?_, hPg, n2, n3, hRg, n5, n6, n7⟩
  · exact ⟨⟨by simpa using b1.1.1, World.cell?_setCell_same _ _ _ b1.1.2.1, (World.cell?_setCell_other _ _ _ _ (by simp)).trans b1.1.2.2⟩, by simpa using b1.2.1, by simpa using b1.2.2⟩
  · have hbr : (w'.setCell ⟨P, 0, none⟩ (.slice (some ⟨g', 0, none⟩) (k + 1) c')).heap[R]? = w'.heap[R]? := Below.heap_setCell _ _ _ _ (by exact n5)
    exact ⟨⟨by simpa using b4.1.1, (World.cell?_of_block hbr).trans b4.1.2.1, (World.cell?_of_block hbr).trans b4.1.2.2⟩, (World.frozen?_of_block hbr).trans b4.2.1, (World.frozen?_of_block hbr).trans b4.2.2⟩
theorem DrawR.alloc {w : World} {B len P g k c R : Nat} {xs : List Int} {t : ByteArray} (h : DrawR w B len P g k c xs t R) (o : Obj) : DrawR (w.alloc o) B len P g k c xs t R :=
  ⟨h.box.alloc o, h.row.alloc o, srcAlloc h.src o, h.res.alloc o, h.ne⟩
theorem grown_after {a w w' : World} {B : Nat} {row : Option Nat} (h : a.grownBy w (some B)) (hg : w.grownBy w' row) (hr : ∀ x, row = some x → a.heap.size ≤ x) : a.grownBy w' (some B) :=
  ⟨hg.os.trans h.os, hg.tape.trans h.tape, hg.output.trans h.output, Nat.le_trans h.size hg.size, fun k hk hne => (hg.block k (Nat.lt_of_lt_of_le hk h.size) (fun e => by have := hr k e.symm; omega)).trans (h.block k hk hne)⟩
theorem grown_setD {a w : World} {B g i : Nat} (h : a.grownBy w (some B)) (hg : a.heap.size ≤ g) (v : Value) : a.grownBy (w.setCell ⟨g, i, none⟩ v) (some B) :=
  ⟨h.os, h.tape, h.output, by simp; exact h.size, fun k hk hne => (Below.heap_setCell _ _ _ k (by intro e; have e2 : k = g := e; omega)).trans (h.block k hk hne)⟩
def RDPost (B len : Nat) (w : World) (e : Ending) (w' : World) : Prop := ∃ (g k c : Nat) (xs : List Int) (t : ByteArray), e = .returned (.agg #[.slice (some ⟨g, 0, none⟩) k c, .string t]) ∧ k ≤ 4 ∧ t.size ≤ 5 ∧ (∀ x ∈ xs, -1 ≤ x ∧ x ≤ 20) ∧
  w'.ownsRow w.heap.size 2 1 (.slice (some ⟨g, 0, none⟩) k c) k (intV xs) ∧ Src w' B len ∧ w.grownBy w' (some B)
theorem DrawR.done {a w : World} {B len P g k c : Nat} {xs : List Int} {t : ByteArray} (h : DrawR w B len P g k c xs t a.heap.size) (hg : a.grownBy w (some B)) (hk : k ≤ 4) (ht : t.size ≤ 5) (hx : ∀ x ∈ xs, -1 ≤ x ∧ x ≤ 20) :
    RDPost B len a (.returned (.agg #[.slice (some ⟨g, 0, none⟩) k c, .string t])) ((w.setCell ⟨a.heap.size, 0, none⟩ (.slice (some ⟨g, 0, none⟩) k c)).setCell ⟨a.heap.size, 1, none⟩ (.string t)) := by
  obtain ⟨h1, h2, h3, h4, n1, n2, n3, n4, n5, n6, n7⟩ := h
  refine ⟨g, k, c, xs, t, rfl, hk, ht, hx, ?_, (h3.setD n7 0 _).setD n7 1 _, grown_setD (grown_setD hg (Nat.le_refl _) _) (Nat.le_refl _) _⟩
  exact ownsRow_block (rowBase h2 (Nat.le_succ _)) (by rw [Below.heap_setCell _ _ _ _ (by exact fun e => n4 e.symm), Below.heap_setCell _ _ _ _ (by exact fun e => n4 e.symm)])
theorem DrawR.text {w : World} {B len P g k c R : Nat} {xs : List Int} {t : ByteArray} (h : DrawR w B len P g k c xs t R) (t2 : ByteArray) : DrawR (w.setCell ⟨P, 1, none⟩ (.string t2)) B len P g k c xs t2 R := by
  obtain ⟨h1, h2, h3, h4, n1, n2, n3, n4, n5, n6, n7⟩ := h
  have e : ∀ b, b ≠ P → (w.setCell ⟨P, 1, none⟩ (.string t2)).heap[b]? = w.heap[b]? := fun b hb => Below.heap_setCell _ _ _ _ (by exact hb)
  refine ⟨⟨⟨by simpa using h1.1.1, (World.cell?_setCell_other _ _ _ _ (by simp)).trans h1.1.2.1, World.cell?_setCell_same _ _ _ h1.1.2.2⟩, by simpa using h1.2.1, by simpa using h1.2.2⟩, ownsRow_block h2 (e g (fun e0 => n1 e0.symm)), h3.setD n3 1 _, ?_, n1, n2, n3, n4, n5, n6, n7⟩
  exact ⟨⟨by simpa using h4.1.1, (World.cell?_of_block (e R n5)).trans h4.1.2.1, (World.cell?_of_block (e R n5)).trans h4.1.2.2⟩, (World.frozen?_of_block (e R n5)).trans h4.2.1, (World.frozen?_of_block (e R n5)).trans h4.2.2⟩
theorem DrawR.reset {w : World} {B len P g k c g' k' c' R : Nat} {xs ys : List Int} {t : ByteArray} (h : DrawR w B len P g k c xs t R) (hPg : P ≠ g') (hRg : R ≠ g')
    (hrow : w.ownsRow (R + 1) 2 1 (.slice (some ⟨g', 0, none⟩) k' c') k' (intV ys)) : DrawR (w.setCell ⟨P, 0, none⟩ (.slice (some ⟨g', 0, none⟩) k' c')) B len P g' k' c' ys t R := by
  obtain ⟨h1, h2, h3, h4, n1, n2, n3, n4, n5, n6, n7⟩ := h
  refine ⟨?_, ownsRow_block hrow (Below.heap_setCell _ _ _ _ (by exact fun e => hPg e.symm)), h3.setD n3 0 _, ?_, hPg, n2, n3, hRg, n5, n6, n7⟩
  · exact ⟨⟨by simpa using h1.1.1, World.cell?_setCell_same _ _ _ h1.1.2.1, (World.cell?_setCell_other _ _ _ _ (by simp)).trans h1.1.2.2⟩, by simpa using h1.2.1, by simpa using h1.2.2⟩
  · have hbr : (w.setCell ⟨P, 0, none⟩ (.slice (some ⟨g', 0, none⟩) k' c')).heap[R]? = w.heap[R]? := Below.heap_setCell _ _ _ _ (by exact n5)
    exact ⟨⟨by simpa using h4.1.1, (World.cell?_of_block hbr).trans h4.1.2.1, (World.cell?_of_block hbr).trans h4.1.2.2⟩, (World.frozen?_of_block hbr).trans h4.2.1, (World.frozen?_of_block hbr).trans h4.2.2⟩
theorem zero_row (w : World) (base j : Nat) (hb : base ≤ w.heap.size) (hj : j ≤ 4) : (w.alloc (.cells #[.int .i64 0, .int .i64 0, .int .i64 0, .int .i64 0] 2)).ownsRow base 2 1 (.slice (some ⟨w.heap.size, 0, none⟩) j 4) j (intV (List.replicate j 0)) := by
  have h9 : j = 0 ∨ j = 1 ∨ j = 2 ∨ j = 3 ∨ j = 4 := by omega
  rcases h9 with rfl | rfl | rfl | rfl | rfl
  all_goals exact ⟨rfl, .inr ⟨w.heap.size, 4, _, rfl, hb, heap_alloc_new w _, by omega, by unfold maxLen; omega, rfl, rfl⟩⟩
theorem pair_set {w : World} {R : Nat} {u v u' v' : Value} (h : PairW w R u v) : PairW ((w.setCell ⟨R, 0, none⟩ u').setCell ⟨R, 1, none⟩ v') R u' v' := by
  refine ⟨⟨by simpa using h.1.1, ?_, ?_⟩, by simpa using h.2.1, by simpa using h.2.2⟩
  · rw [World.cell?_setCell_other _ _ _ _ (by simp)]
    exact World.cell?_setCell_same _ _ _ h.1.2.1
  · exact World.cell?_setCell_same _ _ _ ((World.cell?_setCell_other _ _ _ _ (by simp)).trans h.1.2.2)
def texts9 : List ByteArray := [⟨#[97]⟩, ⟨#[98]⟩, ⟨#[97, 98]⟩, ⟨#[98, 97]⟩, ⟨#[]⟩, ⟨#[115, 104]⟩, ⟨#[115]⟩, ⟨#[104]⟩, ⟨#[97, 98, 97]⟩]

set_option maxHeartbeats 4000000 in
set_option maxRecDepth 100000 in
theorem cDrawRule (B len : Nat) (w : World) (hlen : len ≤ 1048576) (h : Src w B len) :
    Calls Try.prog 71 #[.pointer (some ⟨B, 0, none⟩)] w (RDPost B len w) := by
  obtain ⟨i0, hi0, hz0, hz1, hz2⟩ := info_parts info_i64
  have hB := h.lt
  have R0 := PairW.new w (.slice none 0 0) (.string ByteArray.empty) 35
  have S0 := srcAlloc h (.cells #[.slice none 0 0, .string ByteArray.empty] 35)
  clear h
  go_enter Try.func71, Try.ntmps71
  go_wp2_with fail
  obtain ⟨W3, hW3⟩ : ∃ W3, W3 = ((w.alloc (.cells #[.slice none 0 0, .string ⟨#[]⟩] 35)).alloc (.cells #[] 2)).alloc (.cells #[.string ⟨#[97]⟩, .string ⟨#[98]⟩, .string ⟨#[97, 98]⟩, .string ⟨#[98, 97]⟩, .string ⟨#[]⟩, .string ⟨#[115, 104]⟩, .string ⟨#[115]⟩, .string ⟨#[104]⟩, .string ⟨#[97, 98, 97]⟩] 9) := ⟨_, rfl⟩
  have HG3 : Hid (w.grownBy W3 (some B)) := Lib.hid (by rw [hW3]; exact ((World.grownBy_alloc w _ _).trans (World.grownBy_alloc _ _ _)).trans (World.grownBy_alloc _ _ _))
  have HS3 : Hid (Src W3 B len) := Lib.hid (by rw [hW3]; exact srcAlloc (srcAlloc S0 _) _)
  have HR3 : Hid (PairW W3 w.heap.size (.slice none 0 0) (.string ByteArray.empty)) := Lib.hid (by rw [hW3]; exact (R0.alloc _).alloc _)
  have HO3 : Hid (W3.ownsRow (w.heap.size + 1) 2 1 (.slice (some ⟨w.heap.size + 1, 0, none⟩) 0 0) 0 (intV [])) := Lib.hid (by
    rw [hW3]
    have h9 := World.ownsRow_lit (e := 2) (base := w.heap.size + 1) (size := 1) (w.alloc (.cells #[.slice none 0 0, .string ⟨#[]⟩] 35)) #[] 0 (by simp) (by decide) rfl
    rw [World.size_alloc] at h9
    exact h9.alloc _)
  have HT3 : Hid (∀ j, j < 9 → ∃ t : ByteArray, t.size ≤ 3 ∧ W3.cell? ⟨w.heap.size + 1 + 1, j, none⟩ = some (.string t)) := Lib.hid (by
    intro j hj
    rw [hW3, World.cell?_alloc_at _ _ _ _ (by simp)]
    have h9 : j = 0 ∨ j = 1 ∨ j = 2 ∨ j = 3 ∨ j = 4 ∨ j = 5 ∨ j = 6 ∨ j = 7 ∨ j = 8 := by omega
    rcases h9 with rfl | rfl | rfl | rfl | rfl | rfl | rfl | rfl | rfl
    all_goals exact ⟨_, by decide, rfl⟩)
  have hs3 : W3.heap.size = w.heap.size + 1 + 1 + 1 := by rw [hW3]; simp
  rw [← hW3]
  clear hW3 R0 S0
  refine (cNext B len 9 W3 hlen (by omega) (by omega) HS3.out).mono ?_
  rintro e w1 ⟨r, hr0, hr1, rfl, S1, g1⟩
  obtain ⟨q, rfl⟩ : ∃ q : Nat, r = q := ⟨r.toNat, by omega⟩
  have hq9 : q < 9 := by omega
  obtain ⟨t, ht, hc0⟩ := HT3.out q hq9
  have hc1 : w1.cell? ⟨w.heap.size + 1 + 1, q, none⟩ = some (.string t) := g1.cell hc0 (by simp; omega)
  have HS1 := Lib.hid S1
  have HG1 := Lib.hid (HG3.out.trans g1)
  have HO1 := Lib.hid (HO3.out.kept g1 (.inr (by simp [Value.ownBlock]; omega)))
  have hbr := g1.block w.heap.size (by omega) (by simp; omega)
  have HR1 : Hid (PairW w1 w.heap.size (.slice none 0 0) (.string ByteArray.empty)) := Lib.hid ⟨⟨Nat.lt_of_lt_of_le HR3.out.1.1 g1.size, (World.cell?_of_block hbr).trans HR3.out.1.2.1, (World.cell?_of_block hbr).trans HR3.out.1.2.2⟩, (World.frozen?_of_block hbr).trans HR3.out.2.1, (World.frozen?_of_block hbr).trans HR3.out.2.2⟩
  have hs1 := g1.size
  clear S1 g1 hr1 hc0 hbr
  have e1 : (0 : Int) ≤ (q : Int) := by omega
  have e2 : (q : Int) < 9 := by omega
  go_wp2_with fail
  obtain ⟨W4, hW4⟩ : ∃ W4, W4 = w1.alloc (.cells #[.slice (some ⟨w.heap.size + 1, 0, none⟩) 0 0, .string t] 35) := ⟨_, rfl⟩
  have HD4 : Hid (DrawR W4 B len w1.heap.size (w.heap.size + 1) 0 0 [] t w.heap.size) := Lib.hid (by
    rw [hW4]
    exact ⟨PairW.new w1 _ _ _, HO1.out.alloc _, srcAlloc HS1.out _, HR1.out.alloc _, by omega, by omega, by omega, by omega, by omega, by omega, by omega⟩)
  have HG4 : Hid (w.grownBy W4 (some B)) := Lib.hid (by rw [hW4]; exact HG1.out.trans (World.grownBy_alloc _ _ _))
  rw [← hW4]
  clear hW4
  refine (cNext B len 2 W4 hlen (by omega) (by omega) HD4.out.src).mono ?_
  rintro e w5 ⟨r, hr0, hr1, rfl, S5, g5⟩
  obtain ⟨m0, rfl⟩ : ∃ m0 : Nat, r = m0 := ⟨r.toNat, by omega⟩
  have hm2 : m0 < 2 := by omega
  have HD5 := Lib.hid (HD4.out.next S5 g5)
  have HG5 := Lib.hid (HG4.out.trans g5)
  have hPs : w1.heap.size < W4.heap.size := HD4.out.box.1.1
  obtain ⟨P, hP⟩ : ∃ P, P = w1.heap.size := ⟨_, rfl⟩
  have hPw : w.heap.size ≤ P := by have := HG1.out.size; omega
  rw [← hP] at HD5 ⊢
  clear S5 g5 hr1 hc1 HD4 HG4 hPs hP
  go_wp2_with fail
  go_loopw [4] (fun i wr => ∃ (m k g c : Nat) (xs : List Int), k + m ≤ 2 ∧ i = .int .i64 m ∧ Hid (∀ x ∈ xs, 0 ≤ x ∧ x ≤ 4) ∧ Hid (DrawR wr B len P g k c xs t w.heap.size) ∧ Hid (w.grownBy wr (some B))) (fun i _ => (intOf i).toNat)
  case atStart => exact ⟨1 + m0, 0, _, _, [], by omega, by go_num, Lib.hid (fun x hx => by simp at hx), HD5, HG5⟩
  case round =>
    clear HD5 HG5
    obtain ⟨m, k, g, c, xs, hkm, rfl, HX, HD, HG⟩ := hrel
    by_cases hm : 0 < m
    · have z1 : decide ((0 : Int) < (m : Int)) = true := decide_eq_true (by omega)
      have z1' : decide (0 < m) = true := decide_eq_true hm
      have CN := Lib.hid (cNext B len 5 wr.drew hlen (by omega) (by omega) HD.out.src)
      have HDd : Hid (DrawR wr.drew B len P g k c xs t w.heap.size) := Lib.hid ⟨HD.out.box, HD.out.row, HD.out.src, HD.out.res, HD.out.ne⟩
      have p0 : wr.drew.cell? ⟨P, 0, none⟩ = some (.slice (some ⟨g, 0, none⟩) k c) := HD.out.box.1.2.1
      go_wp2_with fail
      go_region_law (first
        | (go_simp; go_at_call 106; go_loud (refine CN.out.mono ?_; rintro e w6 ⟨a, ha0, ha1, rfl, S6, g6⟩; have D6 := HDd.out.next S6 g6; have p6 := D6.box.1.2.1; have p6a := (D6.box.alloc (.cells #[.int .i64 a] 2)).1.2.1))
        | (refine step_append_lies _ (by rfl) _ _ _ (by rfl) (w.heap.size + 1) 2 i0 _ 1 8 Try.underlying25 hi0 hz0 hz1 hz2 rfl (by decide) (.slice (some ⟨g, 0, none⟩) k c) k _ (by rfl) (D6.row.alloc _) ⟨w6.heap.size, 0, none⟩ 1 1 [.int .i64 a] (by rfl) (by rfl) (World.news_of_block (cs := #[.int .i64 a]) (t := 2) (fr := (0, 0)) (heap_alloc_new w6 _)) (by simp [Value.oneCell']) (by decide) (by unfold maxLen; omega) (by omega) (by have := D6.res.1.1; simp; omega) (w6.heap.size + 1) (by simp) ?_; intro gg cap' w7 hown7 hgrow7 hor7 hlt7; have P7 := (D6.box.alloc (.cells #[.int .i64 a] 2)).grownD hgrow7 (by simp [Value.ownBlock]; exact D6.ne.1); have p7 := P7.1.2.1; have f7 := P7.2.1))
      all_goals
        rw [intV_snoc] at hown7
        have DP := Lib.hid ((D6.alloc (.cells #[.int .i64 a] 2)).put hgrow7 (by
          rcases hor7 with h | h
          · left; simpa [Value.ownBlock] using h
          · right; rw [h]; simp) hown7)
        have G7 := Lib.hid (grown_setD (i := 0) (grown_after ((HG.out.trans (show wr.grownBy w6 (some B) from ⟨g6.os, g6.tape, g6.output, g6.size, g6.block⟩)).trans (World.grownBy_alloc w6 (.cells #[.int .i64 a] 2) (some B))) hgrow7 (fun x hx => by simp [Value.ownBlock] at hx; have := (D6.row.lt g rfl).1; omega)) hPw (.slice (some ⟨gg, 0, none⟩) (k + 1) cap'))
        have HXN : Hid (∀ x ∈ xs ++ [a], 0 ≤ x ∧ x ≤ 4) := Lib.hid (by
          intro x hx
          rw [List.mem_append, List.mem_singleton] at hx
          rcases hx with hx | rfl
          · exact HX.out x hx
          · omega)
        clear hown7 hgrow7 hor7 D6 S6 g6 p6 p6a P7 p7 f7 ha1 HDd p0
        go_wp2_with fail
        go_roundw
        case rel => exact ⟨m - 1, k + 1, gg, cap', xs ++ [a], by omega, by go_num, HXN, DP, G7⟩
        case measure => simp [intOf]; omega
    · have z1 : decide ((0 : Int) < (m : Int)) = false := decide_eq_false (by omega)
      have z1' : decide (0 < m) = false := decide_eq_false hm
      go_wp2_with fail
      refine (cNext B len 24 wr hlen (by omega) (by omega) HD.out.src).mono ?_
      rintro e w8 ⟨a, ha0, ha1, rfl, S8, g8⟩
      have HD8 := Lib.hid (HD.out.next S8 g8)
      have HG8 := Lib.hid (HG.out.trans g8)
      clear S8 g8 HD HG ha1
      by_cases a0 : a = 0
      · have y0 : (a == 0) = true := by simp [a0]
        have y1 : (a == 1) = false := by rw [beq_eq_false_iff_ne]; omega
        have y2 : (a == 2) = false := by rw [beq_eq_false_iff_ne]; omega
        have hB8 : B < w8.heap.size := HD8.out.src.lt
        have hRow := rowLit w8 [19, 20, -1] (-1) 20 (by intro v hv; simp at hv; omega) 2
        have HDa : Hid (DrawR (w8.alloc (.cells (([19, 20, -1] : List Int).map (Value.int .i64)).toArray 2)).drew B len P g k c xs t w.heap.size) := Lib.hid (by
          have h9 := HD8.out.alloc (.cells (([19, 20, -1] : List Int).map (Value.int .i64)).toArray 2)
          exact ⟨h9.box, h9.row, h9.src, h9.res, h9.ne⟩)
        have CP := Lib.hid (cPick B len w8.heap.size 3 3 (-1) 20 (w8.alloc (.cells (([19, 20, -1] : List Int).map (Value.int .i64)).toArray 2)).drew hlen (by omega) (by omega) (by omega) hRow HDa.out.src)
        have p0 : (w8.alloc (.cells #[.int .i64 19, .int .i64 20, .int .i64 (-1)] 2)).drew.cell? ⟨P, 0, none⟩ = some (.slice (some ⟨g, 0, none⟩) k c) := HDa.out.box.1.2.1
        have b0 : w8.drew.cell? ⟨P, 0, none⟩ = some (.slice (some ⟨g, 0, none⟩) k c) := HD8.out.box.1.2.1
        have b0' : w8.cell? ⟨P, 0, none⟩ = some (.slice (some ⟨g, 0, none⟩) k c) := HD8.out.box.1.2.1
        have GA := Lib.hid (HG8.out.trans (World.grownBy_alloc w8 (.cells (([19, 20, -1] : List Int).map (Value.int .i64)).toArray 2) (some B)))
        clear a0 hRow
        go_wp2_with fail
        go_region_law (first
          | (go_simp; go_at_call 107; go_loud (refine CP.out.mono ?_; rintro e w6 ⟨a, ha0, ha1, rfl, S6, g6⟩; have D6 := HDa.out.next S6 g6; have p6 := D6.box.1.2.1; have p6a := (D6.box.alloc (.cells #[.int .i64 a] 2)).1.2.1))
          | (refine step_append_lies _ (by rfl) _ _ _ (by rfl) (w.heap.size + 1) 2 i0 _ 1 8 Try.underlying25 hi0 hz0 hz1 hz2 rfl (by decide) (.slice (some ⟨g, 0, none⟩) k c) k _ (by rfl) (D6.row.alloc _) ⟨w6.heap.size, 0, none⟩ 1 1 [.int .i64 a] (by rfl) (by rfl) (World.news_of_block (cs := #[.int .i64 a]) (t := 2) (fr := (0, 0)) (heap_alloc_new w6 _)) (by simp [Value.oneCell']) (by decide) (by unfold maxLen; omega) (by omega) (by have := D6.res.1.1; simp; omega) (w6.heap.size + 1) (by simp) ?_; intro gg cap' w7 hown7 hgrow7 hor7 hlt7; have P7 := (D6.box.alloc (.cells #[.int .i64 a] 2)).grownD hgrow7 (by simp [Value.ownBlock]; exact D6.ne.1); have p7 := P7.1.2.1; have f7 := P7.2.1))
        all_goals
          rw [intV_snoc] at hown7
          have HD11 := Lib.hid ((D6.alloc (.cells #[.int .i64 a] 2)).put hgrow7 (by
            rcases hor7 with h | h
            · left; simpa [Value.ownBlock] using h
            · right; rw [h]; simp) hown7)
          have HG11 := Lib.hid (grown_setD (i := 0) (grown_after ((GA.out.trans (show (w8.alloc (.cells (([19, 20, -1] : List Int).map (Value.int .i64)).toArray 2)).grownBy w6 (some B) from ⟨g6.os, g6.tape, g6.output, g6.size, g6.block⟩)).trans (World.grownBy_alloc w6 (.cells #[.int .i64 a] 2) (some B))) hgrow7 (fun x hx => by simp [Value.ownBlock] at hx; have := (D6.row.lt g rfl).1; omega)) hPw (.slice (some ⟨gg, 0, none⟩) (k + 1) cap'))
          obtain ⟨⟨_, x0, x1⟩, _, _⟩ := HD11.out.box
          obtain ⟨⟨_, d0, d1⟩, f0, f1⟩ := HD11.out.res
          obtain ⟨⟨_, r0, r1⟩, _, _⟩ := pair_set (u' := .slice (some ⟨gg, 0, none⟩) (k + 1) cap') (v' := .string t) HD11.out.res
          clear hown7 hgrow7 hor7 D6 S6 g6 p6 p6a P7 p7 f7 p0 b0 b0'
          go_wp2_with fail
          refine bodyPost_ret (v := .agg #[.slice (some ⟨gg, 0, none⟩) (k + 1) cap', .string t]) (by simp [results, Try.results71, go_sem, r0, r1]) rfl ?_
          exact HD11.out.done HG11.out (by omega) (by omega) (fun x hx => by
            rw [List.mem_append, List.mem_singleton] at hx
            rcases hx with hx | rfl
            · have := HX.out x hx; omega
            · omega)
      by_cases a1 : a = 1
      · have y0 : (a == 0) = false := by rw [beq_eq_false_iff_ne]; exact a0
        have y1 : (a == 1) = true := by simp [a1]
        have y2 : (a == 2) = false := by rw [beq_eq_false_iff_ne]; omega
        obtain ⟨W9, hW9⟩ : ∃ W9, W9 = w8.alloc (.cells #[.string ⟨#[97, 98, 99, 100]⟩, .string ⟨#[97, 98, 99, 100, 101]⟩, .string ⟨#[65]⟩] 9) := ⟨_, rfl⟩
        have HD9 : Hid (DrawR W9 B len P g k c xs t w.heap.size) := Lib.hid (by rw [hW9]; exact HD8.out.alloc _)
        have HG9 : Hid (w.grownBy W9 (some B)) := Lib.hid (by rw [hW9]; exact HG8.out.trans (World.grownBy_alloc _ _ _))
        have HT9 : Hid (∀ j, j < 3 → ∃ t : ByteArray, t.size ≤ 5 ∧ W9.cell? ⟨w8.heap.size, j, none⟩ = some (.string t)) := Lib.hid (by
          intro j hj
          rw [hW9, World.cell?_alloc_at _ _ _ _ rfl]
          have h9 : j = 0 ∨ j = 1 ∨ j = 2 := by omega
          rcases h9 with rfl | rfl | rfl
          all_goals exact ⟨_, by decide, rfl⟩)
        have hs9 : W9.heap.size = w8.heap.size + 1 := by rw [hW9]; simp
        have hB8 : B < w8.heap.size := HD8.out.src.lt
        clear a0 a1
        go_wp2_with fail
        rw [← hW9]
        clear hW9
        refine (cNext B len 3 W9 hlen (by omega) (by omega) HD9.out.src).mono ?_
        rintro e w10 ⟨a, ha0, ha1, rfl, S10, g10⟩
        obtain ⟨j, rfl⟩ : ∃ j : Nat, a = j := ⟨a.toNat, by omega⟩
        obtain ⟨t2, ht2, hc⟩ := HT9.out j (by omega)
        have hc10 : w10.cell? ⟨w8.heap.size, j, none⟩ = some (.string t2) := g10.cell hc (by simp; omega)
        have HD10 := Lib.hid (HD9.out.next S10 g10)
        have HG10 := Lib.hid (HG9.out.trans g10)
        have HD11 := Lib.hid (HD10.out.text t2)
        have HG11 := Lib.hid (grown_setD (i := 1) HG10.out hPw (.string t2))
        have e3 : (0 : Int) ≤ (j : Int) := by omega
        have e4 : (j : Int) < 3 := by omega
        obtain ⟨⟨_, b0, b1⟩, _, b2⟩ := HD10.out.box
        obtain ⟨⟨_, x0, x1⟩, _, _⟩ := HD11.out.box
        obtain ⟨⟨_, d0, d1⟩, f0, f1⟩ := HD11.out.res
        obtain ⟨⟨_, r0, r1⟩, _, _⟩ := pair_set (u' := .slice (some ⟨g, 0, none⟩) k c) (v' := .string t2) HD11.out.res
        clear S10 g10 hc ha1
        go_wp2_with fail
        refine bodyPost_ret (v := .agg #[.slice (some ⟨g, 0, none⟩) k c, .string t2]) (by simp [results, Try.results71, go_sem, r0, r1]) rfl ?_
        exact HD11.out.done HG11.out (by omega) (by omega) (fun x hx => by have := HX.out x hx; omega)
      by_cases a2 : a = 2
      · have y0 : (a == 0) = false := by rw [beq_eq_false_iff_ne]; exact a0
        have y1 : (a == 1) = false := by rw [beq_eq_false_iff_ne]; exact a1
        have y2 : (a == 2) = true := by simp [a2]
        obtain ⟨W9, hW9⟩ : ∃ W9, W9 = w8.alloc (.cells #[.int .i64 0, .int .i64 0, .int .i64 0, .int .i64 0] 2) := ⟨_, rfl⟩
        have HD9 : Hid (DrawR W9 B len P g k c xs t w.heap.size) := Lib.hid (by rw [hW9]; exact HD8.out.alloc _)
        have HG9 : Hid (w.grownBy W9 (some B)) := Lib.hid (by rw [hW9]; exact HG8.out.trans (World.grownBy_alloc _ _ _))
        have HZ9 : Hid (∀ j, j ≤ 4 → W9.ownsRow (w.heap.size + 1) 2 1 (.slice (some ⟨w8.heap.size, 0, none⟩) j 4) j (intV (List.replicate j 0))) := Lib.hid (fun j hj => by
          rw [hW9]; exact zero_row w8 _ j (by have := HD8.out.res.1.1; omega) hj)
        have hB8 : B < w8.heap.size := HD8.out.src.lt
        have hP8 : P < w8.heap.size := HD8.out.box.1.1
        have hR8 : w.heap.size < w8.heap.size := HD8.out.res.1.1
        clear a0 a1
        go_wp2_with fail
        rw [← hW9]
        clear hW9
        refine (cNext B len 5 W9 hlen (by omega) (by omega) HD9.out.src).mono ?_
        rintro e w10 ⟨a, ha0, ha1, rfl, S10, g10⟩
        obtain ⟨j, rfl⟩ : ∃ j : Nat, a = j := ⟨a.toNat, by omega⟩
        have hj4 : j ≤ 4 := by omega
        have HD10 := Lib.hid (HD9.out.next S10 g10)
        have HG10 := Lib.hid (HG9.out.trans g10)
        have hz10 := (HZ9.out j hj4).kept g10 (.inr (by simp [Value.ownBlock]; omega))
        have HD11 := Lib.hid (HD10.out.reset (by omega) (by omega) hz10)
        have HG11 := Lib.hid (grown_setD (i := 0) HG10.out hPw (.slice (some ⟨w8.heap.size, 0, none⟩) j 4))
        have e3 : (0 : Int) ≤ (j : Int) := by omega
        have e4 : (j : Int) ≤ 4 := by omega
        obtain ⟨⟨_, b0, b1⟩, b2, _⟩ := HD10.out.box
        obtain ⟨⟨_, x0, x1⟩, _, _⟩ := HD11.out.box
        obtain ⟨⟨_, d0, d1⟩, f0, f1⟩ := HD11.out.res
        obtain ⟨⟨_, r0, r1⟩, _, _⟩ := pair_set (u' := .slice (some ⟨w8.heap.size, 0, none⟩) j 4) (v' := .string t) HD11.out.res
        clear S10 g10 hz10 ha1
        go_wp2_with fail
        refine bodyPost_ret (v := .agg #[.slice (some ⟨w8.heap.size, 0, none⟩) j 4, .string t]) (by simp [results, Try.results71, go_sem, r0, r1]) rfl ?_
        exact HD11.out.done HG11.out (by omega) (by omega) (fun x hx => by have := List.eq_of_mem_replicate hx; omega)
      have y0 : (a == 0) = false := by rw [beq_eq_false_iff_ne]; exact a0
      have y1 : (a == 1) = false := by rw [beq_eq_false_iff_ne]; exact a1
      have y2 : (a == 2) = false := by rw [beq_eq_false_iff_ne]; exact a2
      obtain ⟨⟨_, b0, b1⟩, _, _⟩ := HD8.out.box
      obtain ⟨⟨_, d0, d1⟩, f0, f1⟩ := HD8.out.res
      obtain ⟨⟨_, r0, r1⟩, _, _⟩ := pair_set (u' := .slice (some ⟨g, 0, none⟩) k c) (v' := .string t) HD8.out.res
      clear a0 a1 a2
      go_wp2_with fail
      refine bodyPost_ret (v := .agg #[.slice (some ⟨g, 0, none⟩) k c, .string t]) (by simp [results, Try.results71, go_sem, r0, r1]) rfl ?_
      exact HD8.out.done HG8.out (by omega) (by omega) (fun x hx => by have := HX.out x hx; omega)
end Go.Proofs.Ytnfdbpfegmodcaa
