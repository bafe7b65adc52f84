/-
  The contract of spec.l11Good: a drawn place. Regions that draw their order by facts (Reg).
-/
import Derived.Test.YtglmibmjbignbaaGreatDoorMy11
import Derived.Test.YtglmibmjbignbaaGreatDoorMy14
import Derived.Test.YtglmibmjbignbaaGreatDoorMy10
namespace Go.Proofs.YtglmibmjbignbaaGreatDoor
set_option linter.unusedVariables false
open Go.RowKit

def row8G : Array Value := #[.string ⟨#[97, 115, 104]⟩, .string ⟨#[98, 114, 105, 103]⟩, .string ⟨#[99, 111, 114, 107]⟩, .string ⟨#[100, 101, 118, 97]⟩, .string ⟨#[101, 108, 121]⟩, .string ⟨#[102, 105, 102, 101]⟩, .string ⟨#[103, 97, 116, 101]⟩, .string ⟨#[104, 117, 108, 108]⟩]
def tab8G (i : Nat) : ByteArray := [(⟨#[97, 115, 104]⟩ : ByteArray), ⟨#[98, 114, 105, 103]⟩, ⟨#[99, 111, 114, 107]⟩, ⟨#[100, 101, 118, 97]⟩, ⟨#[101, 108, 121]⟩, ⟨#[102, 105, 102, 101]⟩, ⟨#[103, 97, 116, 101]⟩, ⟨#[104, 117, 108, 108]⟩].getD i ByteArray.empty
theorem row8G_at (i : Nat) (h : i < 8) : row8G[i]? = some (.string (tab8G i)) := by
  match i, h with
  | 0, _ => rfl
  | 1, _ => rfl
  | 2, _ => rfl
  | 3, _ => rfl
  | 4, _ => rfl
  | 5, _ => rfl
  | 6, _ => rfl
  | 7, _ => rfl
theorem tab8G_size (i : Nat) (h : i < 8) : (tab8G i).size ≤ 8 := by
  match i, h with
  | 0, _ => decide
  | 1, _ => decide
  | 2, _ => decide
  | 3, _ => decide
  | 4, _ => decide
  | 5, _ => decide
  | 6, _ => decide
  | 7, _ => decide
theorem row2G {V : World} {P : Nat} {r : Int} (h : TabAt V P 2 #[.int .i64 0, .int .i64 r]) (hr : 0 ≤ r ∧ r ≤ 29) : NumRow V P 2 0 29 := by
  refine ⟨h.lt, fun j hj => ?_⟩
  match j, hj with
  | 0, _ => exact ⟨0, by omega, by omega, (h.cell 0).trans rfl⟩
  | 1, _ => exact ⟨r, hr.1, hr.2, (h.cell 1).trans rfl⟩
/-- A place of bounded size, its names aside. -/
def GdP (p : Pl) : Prop := p.c.size ≤ 8 ∧ (0 ≤ p.k ∧ p.k ≤ 19) ∧ (1000 ≤ p.f ∧ p.f ≤ 1599) ∧ (-3500 ≤ p.u ∧ p.u ≤ 3500)
def celP (p : Pl) (A : Option Addr) (c : Nat) : Array Value := #[.string p.c, .int .i64 p.k, .int .i64 p.f, .int .i64 p.u, .slice A p.ns.length c]
def zeroP : Array Value := #[.string ⟨#[]⟩, .int .i64 0, .int .i64 0, .int .i64 0, .slice none 0 0]
def putP (V : World) (b : Nat) (p : Pl) (A : Option Addr) (c : Nat) : World := ((((V.setCell ⟨b, 0, none⟩ (.string p.c)).setCell ⟨b, 1, none⟩ (.int .i64 p.k)).setCell ⟨b, 2, none⟩ (.int .i64 p.f)).setCell ⟨b, 3, none⟩ (.int .i64 p.u)).setCell ⟨b, 4, none⟩ (.slice A p.ns.length c)
theorem putP_same {V : World} {b : Nat} {t : TypeId} {cs : Array Value} {p : Pl} {A : Option Addr} {c : Nat} (h : TabAt V b t cs) (hs : cs.size = 5) : TabAt (putP V b p A c) b t (celP p A c) := by
  obtain ⟨a0, a1, a2, a3, a4, rfl⟩ := arr5 hs
  exact ((((h.set 0 (.string p.c)).set 1 (.int .i64 p.k)).set 2 (.int .i64 p.f)).set 3 (.int .i64 p.u)).set 4 (.slice A p.ns.length c)
theorem putP_other {V : World} {g b : Nat} {t : TypeId} {cs : Array Value} {p : Pl} {A : Option Addr} {c : Nat} (h : TabAt V g t cs) (hne : g ≠ b) : TabAt (putP V b p A c) g t cs := tab_other (tab_other (tab_other (tab_other (tab_other h hne) hne) hne) hne) hne
theorem putP_src {V : World} {B len b : Nat} {p : Pl} {A : Option Addr} {c : Nat} (h : Src V B len) (hb : B < b) : Src (putP V b p A c) B len := ((((h.set1 hb _).set1 hb _).set1 hb _).set1 hb _).set1 hb _
theorem putP_grown {w V : World} {B b : Nat} {p : Pl} {A : Option Addr} {c : Nat} (h : w.grownBy V (some B)) (hb : w.heap.size ≤ b) : w.grownBy (putP V b p A c) (some B) := grown_set1 (grown_set1 (grown_set1 (grown_set1 (grown_set1 h hb _) hb _) hb _) hb _) hb _
/-- On the way to the place: the source, the box of the result. -/
structure WP (w : World) (B len : Nat) (V : World) : Prop where
  src : Src V B len
  grown : w.grownBy V (some B)
  lt : B < w.heap.size
  res : TabAt V w.heap.size 29 zeroP
theorem WP.drew {w V : World} {B len : Nat} (h : WP w B len V) : WP w B len V.drew := ⟨h.src, ⟨h.grown.os, h.grown.tape, h.grown.output, h.grown.size, h.grown.block⟩, h.lt, h.res⟩
theorem WP.next {w V V' : World} {B len : Nat} (h : WP w B len V) (hS : Src V' B len) (hg : V.grownBy V' (some B)) : WP w B len V' := ⟨hS, h.grown.trans hg, h.lt, tab_src h.res h.src (by decide) hg⟩
theorem WP.alloc {w V : World} {B len : Nat} (h : WP w B len V) (o : Obj) : WP w B len (V.alloc o) := h.next (h.src.alloc o) (World.grownBy_alloc V o (some B))
theorem WP.put {w V : World} {B len b : Nat} {p : Pl} {A : Option Addr} {c : Nat} (h : WP w B len V) (hb : w.heap.size < b) : WP w B len (putP V b p A c) :=
  ⟨putP_src h.src (by have := h.lt; omega), putP_grown h.grown (Nat.le_of_lt hb), h.lt, putP_other h.res (by omega)⟩
def slGd (j : Nat) : Nat := [7, 8, 9, 10, 11, 12, 13, 14, 15, 16, 17, 18, 19, 3, 3].getD j 0
/-- What each operation of the region leaves in its slot. -/
def GGd (w : World) (B : Nat) : Nat → Value → World → Prop
  | 0, v, V => ∃ P, v = .slice (some ⟨P, 0, none⟩) 8 8 ∧ TabAt V P 9 row8G
  | 1, v, V => v = .pointer (some ⟨B, 0, none⟩)
  | 2, v, V => ∃ q : Nat, v = .int .i64 (q : Int) ∧ q < 8
  | 3, v, V => ∃ P q : Nat, v = .pointer (some ⟨P, q, none⟩) ∧ q < 8 ∧ TabAt V P 9 row8G
  | 4, v, V => ∃ t : ByteArray, v = .string t ∧ t.size ≤ 8
  | 5, v, V => v = .pointer (some ⟨B, 0, none⟩)
  | 6, v, V => ∃ r : Int, v = .int .i64 r ∧ 0 ≤ r ∧ r ≤ 5
  | 7, v, V => v = .pointer (some ⟨B, 0, none⟩)
  | 8, v, V => ∃ r : Int, v = .int .i64 r ∧ 0 ≤ r ∧ r ≤ 599
  | 9, v, V => ∃ r : Int, v = .int .i64 r ∧ 1000 ≤ r ∧ r ≤ 1599
  | 10, v, V => ∃ r : Int, v = .agg #[.int .i64 r, .int .i64 0] ∧ 1000 ≤ r ∧ r ≤ 1599
  | 11, v, V => ∃ g, v = .slice (some ⟨g, 0, none⟩) 0 0 ∧ w.heap.size ≤ g ∧ TabAt V g 100 #[]
  | 12, v, V => ∃ (p : Pl) (g : Nat), v = plv11 p (some ⟨g, 0, none⟩) 0 ∧ GdP p ∧ p.ns = [] ∧ w.heap.size ≤ g ∧ TabAt V g 100 #[]
  | 13, v, V => ∃ (b : Nat) (cs : Array Value), v = .pointer (some ⟨b, 0, none⟩) ∧ w.heap.size < b ∧ cs.size = 5 ∧ TabAt V b 29 cs
  | 14, v, V => ∃ (b : Nat) (p : Pl) (g : Nat), v = .pointer (some ⟨b, 0, none⟩) ∧ w.heap.size < b ∧ GdP p ∧ p.ns = [] ∧ w.heap.size ≤ g ∧ TabAt V g 100 #[] ∧ TabAt V b 29 (celP p (some ⟨g, 0, none⟩) 0)
  | _, _, _ => True
theorem GGd.keep {w : World} {B : Nat} {V V' : World} {v : Value} (hT : ∀ (g : Nat) (t : TypeId) (cs : Array Value), t ≠ 131 → TabAt V g t cs → TabAt V' g t cs) (j : Nat) (h : GGd w B j v V) : GGd w B j v V' := by
  rcases j with _ | _ | _ | _ | _ | _ | _ | _ | _ | _ | _ | _ | _ | _ | _ | j
  · obtain ⟨P, h1, h2⟩ := h; exact ⟨P, h1, hT _ _ _ (by decide) h2⟩
  · first | (simp only [GGd] at h ⊢; exact h) | trivial
  · first | (simp only [GGd] at h ⊢; exact h) | trivial
  · obtain ⟨P, q, h1, h3, h2⟩ := h; exact ⟨P, q, h1, h3, hT _ _ _ (by decide) h2⟩
  · first | (simp only [GGd] at h ⊢; exact h) | trivial
  · first | (simp only [GGd] at h ⊢; exact h) | trivial
  · first | (simp only [GGd] at h ⊢; exact h) | trivial
  · first | (simp only [GGd] at h ⊢; exact h) | trivial
  · first | (simp only [GGd] at h ⊢; exact h) | trivial
  · first | (simp only [GGd] at h ⊢; exact h) | trivial
  · first | (simp only [GGd] at h ⊢; exact h) | trivial
  · obtain ⟨g, h1, h3, h2⟩ := h; exact ⟨g, h1, h3, hT _ _ _ (by decide) h2⟩
  · obtain ⟨p, g, h1, h3, h4, h5, h2⟩ := h; exact ⟨p, g, h1, h3, h4, h5, hT _ _ _ (by decide) h2⟩
  · obtain ⟨b, cs, h1, h3, h4, h2⟩ := h; exact ⟨b, cs, h1, h3, h4, hT _ _ _ (by decide) h2⟩
  · obtain ⟨b, p, g, h1, h3, h4, h5, h6, h7, h8⟩ := h; exact ⟨b, p, g, h1, h3, h4, h5, h6, hT _ _ _ (by decide) h7, hT _ _ _ (by decide) h8⟩
  · trivial
def FGd (w : World) (B : Nat) (j : Nat) (a : Act) (V : World) : Prop := ∃ v, a.tmps[slGd j]? = some v ∧ GGd w B j v V
theorem GGd.put {w V : World} {B b : Nat} {p : Pl} {A : Option Addr} {c : Nat} {v : Value} {cs : Array Value} (hb : w.heap.size < b) (hB : TabAt V b 29 cs) (hz : cs.size = 5) (j : Nat) (h14 : j ≠ 14) (hv : j = 13 → v = .pointer (some ⟨b, 0, none⟩)) (h : GGd w B j v V) : GGd w B j v (putP V b p A c) := by
  rcases j with _ | _ | _ | _ | _ | _ | _ | _ | _ | _ | _ | _ | _ | _ | _ | j
  · obtain ⟨P, h1, h2⟩ := h; exact ⟨P, h1, putP_other h2 (tab_ne h2 hB (by decide))⟩
  · simp only [GGd] at h ⊢; exact h
  · simp only [GGd] at h ⊢; exact h
  · obtain ⟨P, q, h1, h3, h2⟩ := h; exact ⟨P, q, h1, h3, putP_other h2 (tab_ne h2 hB (by decide))⟩
  · simp only [GGd] at h ⊢; exact h
  · simp only [GGd] at h ⊢; exact h
  · simp only [GGd] at h ⊢; exact h
  · simp only [GGd] at h ⊢; exact h
  · simp only [GGd] at h ⊢; exact h
  · simp only [GGd] at h ⊢; exact h
  · simp only [GGd] at h ⊢; exact h
  · obtain ⟨P, h1, h3, h2⟩ := h; exact ⟨P, h1, h3, putP_other h2 (tab_ne h2 hB (by decide))⟩
  · obtain ⟨p, g, h1, h3, h4, h5, h2⟩ := h; exact ⟨p, g, h1, h3, h4, h5, putP_other h2 (tab_ne h2 hB (by decide))⟩
  · exact ⟨b, celP p A c, hv rfl, hb, rfl, putP_same hB hz⟩
  · exact absurd rfl h14
  · trivial
/-- The place's box, its names, the box of the result, and the source. -/
structure GW (w : World) (B len bp : Nat) (V : World) (p : Pl) (A : Option Addr) (c : Nat) : Prop where
  ln : LN w w.heap.size B len V (.slice A p.ns.length c) p.ns.length p.ns
  box : TabAt V bp 29 (celP p A c)
  lt : w.heap.size < bp
  res : TabAt V w.heap.size 29 zeroP
  ok : GdP p
theorem GW.next {w V V' : World} {B len bp c : Nat} {p : Pl} {A : Option Addr} (h : GW w B len bp V p A c) (hS : Src V' B len) (hg : V.grownBy V' (some B)) : GW w B len bp V' p A c :=
  ⟨h.ln.next hS hg, tab_src h.box h.ln.src (by decide) hg, h.lt, tab_src h.res h.ln.src (by decide) hg, h.ok⟩
theorem LN.drewG {w V : World} {R B len m : Nat} {v : Value} {xs : List Nm} (h : LN w R B len V v m xs) : LN w R B len V.drew v m xs := ⟨h.own, h.src, ⟨h.grown.os, h.grown.tape, h.grown.output, h.grown.size, h.grown.block⟩, h.lt, h.small, h.lo, h.hi⟩
theorem LN.setG {w V : World} {R B len m b i : Nat} {v u : Value} {xs : List Nm} {t : TypeId} {cs : Array Value} (h : LN w R B len V v m xs) (hb : TabAt V b t cs) (ht : t ≠ 100) (hw : w.heap.size ≤ b) : LN w R B len (V.setCell ⟨b, i, none⟩ u) v m xs := by
  refine ⟨?_, h.src.set1 (by have := h.lt; omega) _, grown_set1 h.grown hw _, h.lt, h.small, h.lo, by have := h.hi; simpa using this⟩
  refine ⟨h.own.1, ?_⟩
  rcases h.own.2 with h0 | ⟨g, cap, cur, h1, h2, h3, h4⟩
  · exact .inl h0
  · exact .inr ⟨g, cap, cur, h1, h2, tab_other h3 (tab_ne h3 hb (fun e => ht e.symm)), h4⟩
theorem GW.set {w V : World} {B len bp c i : Nat} {p q : Pl} {A A' : Option Addr} {c' : Nat} {u : Value} (h : GW w B len bp V p A c) (hc : (celP p A c).setIfInBounds i u = celP q A' c') (hn : LN w w.heap.size B len (V.setCell ⟨bp, i, none⟩ u) (.slice A' q.ns.length c') q.ns.length q.ns) (ok : GdP q) : GW w B len bp (V.setCell ⟨bp, i, none⟩ u) q A' c' :=
  ⟨hn, by have := h.box.set i u; rwa [hc] at this, h.lt, tab_other h.res (by have := h.lt; omega), ok⟩
/-- The same, whichever place it is; at most N names. -/
def GE (w : World) (B len bp N : Nat) (V : World) : Prop := ∃ p A c, GW w B len bp V p A c ∧ p.ns.length ≤ N
theorem GE.more {w V : World} {B len bp N M : Nat} (h : GE w B len bp N V) (hM : N ≤ M) : GE w B len bp M V := by
  obtain ⟨p, A, c, h, hl⟩ := h
  exact ⟨p, A, c, h, Nat.le_trans hl hM⟩
theorem GE.src {w V : World} {B len bp N : Nat} (h : GE w B len bp N V) : Src V B len := by obtain ⟨p, A, c, h, _⟩ := h; exact h.ln.src
theorem GE.drew {w V : World} {B len bp N : Nat} (h : GE w B len bp N V) : GE w B len bp N V.drew := by
  obtain ⟨p, A, c, h, hr⟩ := h
  exact ⟨p, A, c, ⟨h.ln.drewG, h.box, h.lt, h.res, h.ok⟩, hr⟩
theorem GE.next {w V V' : World} {B len bp N : Nat} (h : GE w B len bp N V) (hS : Src V' B len) (hg : V.grownBy V' (some B)) : GE w B len bp N V' := by
  obtain ⟨p, A, c, h, hr⟩ := h
  exact ⟨p, A, c, h.next hS hg, hr⟩
theorem GE.alloc {w V : World} {B len bp N : Nat} (h : GE w B len bp N V) (o : Obj) : GE w B len bp N (V.alloc o) := h.next (h.src.alloc o) (World.grownBy_alloc V o (some B))
theorem GE.cell2 {w V : World} {B len bp N : Nat} (h : GE w B len bp N V) : ∃ f : Int, 1000 ≤ f ∧ f ≤ 1599 ∧ V.cell? ⟨bp, 2, none⟩ = some (.int .i64 f) := by
  obtain ⟨p, A, c, h, _⟩ := h
  exact ⟨p.f, h.ok.2.2.1.1, h.ok.2.2.1.2, (h.box.cell 2).trans rfl⟩
theorem GE.at3 {w V : World} {B len bp N : Nat} (h : GE w B len bp N V) : ∃ v, V.cell? ⟨bp, 3, none⟩ = some v ∧ V.frozen? ⟨bp, 3, none⟩ = false := by
  obtain ⟨p, A, c, h, hr⟩ := h
  exact ⟨_, (h.box.cell 3).trans rfl, h.box.frozen 3⟩
theorem GE.set3 {w V : World} {B len bp N : Nat} (h : GE w B len bp N V) (r : Int) (h0 : -3500 ≤ r) (h1 : r ≤ 3500) : GE w B len bp N (V.setCell ⟨bp, 3, none⟩ (.int .i64 r)) := by
  obtain ⟨p, A, c, h, hl⟩ := h
  exact ⟨⟨p.c, p.k, p.f, r, p.ns⟩, A, c, h.set (q := ⟨p.c, p.k, p.f, r, p.ns⟩) rfl (h.ln.setG h.box (by decide) (Nat.le_of_lt h.lt)) ⟨h.ok.1, h.ok.2.1, h.ok.2.2.1, h0, h1⟩, hl⟩
def slGe (j : Nat) : Nat := [20, 21, 22, 23, 24, 25, 26, 27, 28, 0].getD j 0
/-- What each operation of the region leaves in its slot. -/
def GGe (B bp : Nat) : Nat → Value → World → Prop
  | 0, v, V => v = .pointer (some ⟨bp, 2, none⟩)
  | 1, v, V => v = .pointer (some ⟨bp, 2, none⟩)
  | 2, v, V => ∃ r : Int, v = .int .i64 r ∧ 1000 ≤ r ∧ r ≤ 1599
  | 3, v, V => ∃ r : Int, v = .int .i64 r ∧ 1100 ≤ r ∧ r ≤ 1699
  | 4, v, V => v = .pointer (some ⟨B, 0, none⟩)
  | 5, v, V => ∃ r : Int, v = .int .i64 r ∧ 0 ≤ r ∧ r ≤ 999
  | 6, v, V => ∃ r : Int, v = .int .i64 r ∧ 1100 ≤ r ∧ r ≤ 2698
  | 7, v, V => v = .pointer (some ⟨bp, 2, none⟩)
  | 8, v, V => v = .pointer (some ⟨bp, 3, none⟩)
  | 9, v, V => True
  | _, _, _ => True
theorem GGe.keep {B bp : Nat} {V V' : World} {v : Value} (hT : ∀ (g : Nat) (t : TypeId) (cs : Array Value), t ≠ 131 → TabAt V g t cs → TabAt V' g t cs) (j : Nat) (h : GGe B bp j v V) : GGe B bp j v V' := by
  rcases j with _ | _ | _ | _ | _ | _ | _ | _ | _ | _ | j
  · first | (simp only [GGe] at h ⊢; exact h) | trivial
  · first | (simp only [GGe] at h ⊢; exact h) | trivial
  · first | (simp only [GGe] at h ⊢; exact h) | trivial
  · first | (simp only [GGe] at h ⊢; exact h) | trivial
  · first | (simp only [GGe] at h ⊢; exact h) | trivial
  · first | (simp only [GGe] at h ⊢; exact h) | trivial
  · first | (simp only [GGe] at h ⊢; exact h) | trivial
  · first | (simp only [GGe] at h ⊢; exact h) | trivial
  · first | (simp only [GGe] at h ⊢; exact h) | trivial
  · first | (simp only [GGe] at h ⊢; exact h) | trivial
  · trivial
def FGe (B bp : Nat) (j : Nat) (a : Act) (V : World) : Prop := ∃ v, a.tmps[slGe j]? = some v ∧ GGe B bp j v V
theorem GGe.any {B bp : Nat} {V V' : World} {v : Value} (j : Nat) (h : GGe B bp j v V) : GGe B bp j v V' := by
  rcases j with _ | _ | _ | _ | _ | _ | _ | _ | _ | _ | j
  all_goals first | (simp only [GGe] at h ⊢; exact h) | trivial
theorem LN.setN {w V : World} {R B len m b i : Nat} {v u : Value} {xs : List Nm} (h : LN w R B len V v m xs) (hb : ∀ k, v.ownBlock = some k → k ≠ b) (hw : w.heap.size ≤ b) : LN w R B len (V.setCell ⟨b, i, none⟩ u) v m xs := by
  refine ⟨?_, h.src.set1 (by have := h.lt; omega) _, grown_set1 h.grown hw _, h.lt, h.small, h.lo, by have := h.hi; simpa using this⟩
  refine ⟨h.own.1, ?_⟩
  rcases h.own.2 with h0 | ⟨g, cap, cur, h1, h2, h3, h4⟩
  · exact .inl h0
  · exact .inr ⟨g, cap, cur, h1, h2, tab_other h3 (hb g (by rw [h1]; rfl)), h4⟩
/-- And a name's box. -/
structure GY (w : World) (B len bp bx : Nat) (V : World) (p : Pl) (A : Option Addr) (c : Nat) (x : Nm) : Prop where
  gw : GW w B len bp V p A c
  lt : w.heap.size < bx
  off : ∀ k, (Value.slice A p.ns.length c).ownBlock = some k → k ≠ bx
  ok : Small x
  box : TabAt V bx 100 (celN x)
theorem GY.next {w V V' : World} {B len bp bx c : Nat} {p : Pl} {A : Option Addr} {x : Nm} (h : GY w B len bp bx V p A c x) (hS : Src V' B len) (hg : V.grownBy V' (some B)) : GY w B len bp bx V' p A c x :=
  ⟨h.gw.next hS hg, h.lt, h.off, h.ok, tab_src h.box h.gw.ln.src (by decide) hg⟩
theorem GY.ne {w V : World} {B len bp bx c : Nat} {p : Pl} {A : Option Addr} {x : Nm} (h : GY w B len bp bx V p A c x) : bp ≠ bx := tab_ne h.gw.box h.box (by decide)
theorem GY.put {w V : World} {B len bp bx c i : Nat} {p : Pl} {A : Option Addr} {x y : Nm} {u : Value} (h : GY w B len bp bx V p A c x) (hc : (celN x).setIfInBounds i u = celN y) (hy : Small y) : GY w B len bp bx (V.setCell ⟨bx, i, none⟩ u) p A c y :=
  ⟨⟨h.gw.ln.setN h.off (Nat.le_of_lt h.lt), tab_other h.gw.box h.ne, h.gw.lt, tab_other h.gw.res (by have := h.lt; omega), h.gw.ok⟩, h.lt, h.off, hy, by have := h.box.set i u; rwa [hc] at this⟩
def GX (w : World) (B len bp bx N : Nat) (V : World) : Prop := ∃ p A c x, GY w B len bp bx V p A c x ∧ p.ns.length ≤ N
theorem GX.src {w V : World} {B len bp bx N : Nat} (h : GX w B len bp bx N V) : Src V B len := by obtain ⟨p, A, c, x, h, _⟩ := h; exact h.gw.ln.src
theorem GX.drew {w V : World} {B len bp bx N : Nat} (h : GX w B len bp bx N V) : GX w B len bp bx N V.drew := by
  obtain ⟨p, A, c, x, h, hl⟩ := h
  exact ⟨p, A, c, x, ⟨⟨h.gw.ln.drewG, h.gw.box, h.gw.lt, h.gw.res, h.gw.ok⟩, h.lt, h.off, h.ok, h.box⟩, hl⟩
theorem GX.next {w V V' : World} {B len bp bx N : Nat} (h : GX w B len bp bx N V) (hS : Src V' B len) (hg : V.grownBy V' (some B)) : GX w B len bp bx N V' := by
  obtain ⟨p, A, c, x, h, hl⟩ := h
  exact ⟨p, A, c, x, h.next hS hg, hl⟩
theorem GX.alloc {w V : World} {B len bp bx N : Nat} (h : GX w B len bp bx N V) (o : Obj) : GX w B len bp bx N (V.alloc o) := h.next (h.src.alloc o) (World.grownBy_alloc V o (some B))
theorem GX.cell2 {w V : World} {B len bp bx N : Nat} (h : GX w B len bp bx N V) : ∃ f : Int, -3500 ≤ f ∧ f ≤ 3500 ∧ V.cell? ⟨bp, 2, none⟩ = some (.int .i64 f) := by
  obtain ⟨p, A, c, x, h, _⟩ := h
  have := h.gw.ok.2.2.1
  exact ⟨p.f, by omega, by omega, (h.gw.box.cell 2).trans rfl⟩
theorem GX.cell3 {w V : World} {B len bp bx N : Nat} (h : GX w B len bp bx N V) : ∃ f : Int, -3500 ≤ f ∧ f ≤ 3500 ∧ V.cell? ⟨bp, 3, none⟩ = some (.int .i64 f) := by
  obtain ⟨p, A, c, x, h, _⟩ := h
  exact ⟨p.u, h.gw.ok.2.2.2.1, h.gw.ok.2.2.2.2, (h.gw.box.cell 3).trans rfl⟩
theorem GX.at34 {w V : World} {B len bp bx N : Nat} (h : GX w B len bp bx N V) : ∃ v v', V.cell? ⟨bx, 3, none⟩ = some v ∧ V.cell? ⟨bx, 4, none⟩ = some v' ∧ V.frozen? ⟨bx, 3, none⟩ = false ∧ V.frozen? ⟨bx, 4, none⟩ = false := by
  obtain ⟨p, A, c, x, h, _⟩ := h
  exact ⟨_, _, (h.box.cell 3).trans rfl, (h.box.cell 4).trans rfl, h.box.frozen 3, h.box.frozen 4⟩
theorem GX.boxAt {w V : World} {B len bp bx N : Nat} (h : GX w B len bp bx N V) : ∃ cs, TabAt V bx 100 cs := by
  obtain ⟨p, A, c, x, h, _⟩ := h
  exact ⟨_, h.box⟩
theorem GX.set34 {w V : World} {B len bp bx N : Nat} (h : GX w B len bp bx N V) (f u : Int) (hf : -4000 ≤ f ∧ f ≤ 4000) (hu : -4000 ≤ u ∧ u ≤ 4000) : GX w B len bp bx N ((V.setCell ⟨bx, 3, none⟩ (.int .i64 f)).setCell ⟨bx, 4, none⟩ (.int .i64 u)) := by
  obtain ⟨p, A, c, x, h, hl⟩ := h
  have h1 : GY w B len bp bx (V.setCell ⟨bx, 3, none⟩ (.int .i64 f)) p A c ⟨x.t, x.l, x.s, f, x.u⟩ := h.put rfl ⟨h.ok.1, h.ok.2.1, h.ok.2.2.1, hf, h.ok.2.2.2.2⟩
  exact ⟨p, A, c, ⟨x.t, x.l, x.s, f, u⟩, h1.put rfl ⟨h.ok.1, h.ok.2.1, h.ok.2.2.1, hf, hu⟩, hl⟩
def slGs (j : Nat) : Nat := [37, 38, 39, 40, 41, 42, 43, 44, 45, 46, 47, 48, 49, 50, 51, 52, 53, 0].getD j 0
/-- What each operation of the region leaves in its slot. -/
def GGs (B bp bx : Nat) : Nat → Value → World → Prop
  | 0, v, V => v = .pointer (some ⟨bp, 2, none⟩)
  | 1, v, V => v = .pointer (some ⟨bp, 2, none⟩)
  | 2, v, V => ∃ r : Int, v = .int .i64 r ∧ -3500 ≤ r ∧ r ≤ 3500
  | 3, v, V => v = .pointer (some ⟨B, 0, none⟩)
  | 4, v, V => ∃ r : Int, v = .int .i64 r ∧ 0 ≤ r ∧ r ≤ 59
  | 5, v, V => ∃ r : Int, v = .int .i64 r ∧ -4000 ≤ r ∧ r ≤ 4000
  | 6, v, V => v = .pointer (some ⟨bp, 2, none⟩)
  | 7, v, V => v = .pointer (some ⟨bp, 3, none⟩)
  | 8, v, V => ∃ r : Int, v = .int .i64 r ∧ -3500 ≤ r ∧ r ≤ 3500
  | 9, v, V => v = .pointer (some ⟨B, 0, none⟩)
  | 10, v, V => v = .pointer (some ⟨B, 0, none⟩)
  | 11, v, V => ∃ r : Int, v = .int .i64 r ∧ 0 ≤ r ∧ r ≤ 29
  | 12, v, V => ∃ (P : Nat) (r : Int), v = .slice (some ⟨P, 0, none⟩) 2 2 ∧ (0 ≤ r ∧ r ≤ 29) ∧ TabAt V P 2 #[.int .i64 0, .int .i64 r]
  | 13, v, V => ∃ r : Int, v = .int .i64 r ∧ 0 ≤ r ∧ r ≤ 29
  | 14, v, V => ∃ r : Int, v = .int .i64 r ∧ -4000 ≤ r ∧ r ≤ 4000
  | 15, v, V => ∃ f u : Int, v = .agg #[.int .i64 f, .int .i64 u] ∧ (-4000 ≤ f ∧ f ≤ 4000) ∧ (-4000 ≤ u ∧ u ≤ 4000)
  | 16, v, V => v = .pointer (some ⟨bx, 3, none⟩)
  | 17, v, V => True
  | _, _, _ => True
theorem GGs.keep {B bp bx : Nat} {V V' : World} {v : Value} (hT : ∀ (g : Nat) (t : TypeId) (cs : Array Value), t ≠ 131 → TabAt V g t cs → TabAt V' g t cs) (j : Nat) (h : GGs B bp bx j v V) : GGs B bp bx j v V' := by
  rcases j with _ | _ | _ | _ | _ | _ | _ | _ | _ | _ | _ | _ | _ | _ | _ | _ | _ | _ | j
  · first | (simp only [GGs] at h ⊢; exact h) | trivial
  · first | (simp only [GGs] at h ⊢; exact h) | trivial
  · first | (simp only [GGs] at h ⊢; exact h) | trivial
  · first | (simp only [GGs] at h ⊢; exact h) | trivial
  · first | (simp only [GGs] at h ⊢; exact h) | trivial
  · first | (simp only [GGs] at h ⊢; exact h) | trivial
  · first | (simp only [GGs] at h ⊢; exact h) | trivial
  · first | (simp only [GGs] at h ⊢; exact h) | trivial
  · first | (simp only [GGs] at h ⊢; exact h) | trivial
  · first | (simp only [GGs] at h ⊢; exact h) | trivial
  · first | (simp only [GGs] at h ⊢; exact h) | trivial
  · first | (simp only [GGs] at h ⊢; exact h) | trivial
  · obtain ⟨P, r, h1, h3, h2⟩ := h; exact ⟨P, r, h1, h3, hT _ _ _ (by decide) h2⟩
  · first | (simp only [GGs] at h ⊢; exact h) | trivial
  · first | (simp only [GGs] at h ⊢; exact h) | trivial
  · first | (simp only [GGs] at h ⊢; exact h) | trivial
  · first | (simp only [GGs] at h ⊢; exact h) | trivial
  · first | (simp only [GGs] at h ⊢; exact h) | trivial
  · trivial
def FGs (B bp bx : Nat) (j : Nat) (a : Act) (V : World) : Prop := ∃ v, a.tmps[slGs j]? = some v ∧ GGs B bp bx j v V
theorem GGs.put {B bp bx : Nat} {V : World} {v u : Value} (hB : ∃ cs, TabAt V bx 100 cs) (j : Nat) (h : GGs B bp bx j v V) {u' : Value} : GGs B bp bx j v ((V.setCell ⟨bx, 3, none⟩ u).setCell ⟨bx, 4, none⟩ u') := by
  obtain ⟨cs, hB⟩ := hB
  rcases j with _ | _ | _ | _ | _ | _ | _ | _ | _ | _ | _ | _ | _ | _ | _ | _ | _ | _ | j
  all_goals first
    | (simp only [GGs] at h ⊢; exact h)
    | (obtain ⟨P, r, h1, h3, h2⟩ := h; have hne := tab_ne h2 hB (by decide); exact ⟨P, r, h1, h3, tab_other (tab_other h2 hne) hne⟩)
    | trivial
end Go.Proofs.YtglmibmjbignbaaGreatDoor
