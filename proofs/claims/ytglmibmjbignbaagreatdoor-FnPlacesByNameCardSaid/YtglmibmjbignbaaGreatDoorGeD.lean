/-
  The contract of spec.l11Draw: a drawn place, rarely one that is not as described.
-/
import Derived.Test.YtglmibmjbignbaaGreatDoorGdD
namespace Go.Proofs.YtglmibmjbignbaaGreatDoor
set_option linter.unusedVariables false
open Go.RowKit

theorem LN.down {w w1 V : World} {B len m : Nat} {v : Value} {xs : List Nm} (h : LN w1 w1.heap.size B len V v m xs) (g : w.grownBy w1 (some B)) (hl : B < w.heap.size) : LN w w.heap.size B len V v m xs :=
  ⟨rowBase h.own g.size, h.src, g.trans h.grown, hl, h.small, Nat.le_refl _, (g.trans h.grown).size⟩
/-- A place of bounded size. -/
def SmP (p : Pl) : Prop := p.c.size ≤ 64 ∧ (-4000 ≤ p.k ∧ p.k ≤ 4000) ∧ (-4000 ≤ p.f ∧ p.f ≤ 4000) ∧ (-4000 ≤ p.u ∧ p.u ≤ 4000)
theorem GdP.sm {p : Pl} (h : GdP p) : SmP p := ⟨by have := h.1; omega, by have := h.2.1; omega, by have := h.2.2.1; omega, by have := h.2.2.2; omega⟩
structure GV (w : World) (B len bp : Nat) (V : World) (p : Pl) (A : Option Addr) (c : Nat) : Prop where
  ln : LN w w.heap.size B len V (.slice A p.ns.length c) p.ns.length p.ns
  box : TabAt V bp 29 (celP p A c)
  lt : w.heap.size < bp
  res : TabAt V w.heap.size 29 zeroP
  ok : SmP p
theorem GV.next {w V V' : World} {B len bp c : Nat} {p : Pl} {A : Option Addr} (h : GV w B len bp V p A c) (hS : Src V' B len) (hg : V.grownBy V' (some B)) : GV w B len bp V' p A c :=
  ⟨h.ln.next hS hg, tab_src h.box h.ln.src (by decide) hg, h.lt, tab_src h.res h.ln.src (by decide) hg, h.ok⟩
theorem GV.set {w V : World} {B len bp c i : Nat} {p q : Pl} {A : Option Addr} {u : Value} (h : GV w B len bp V p A c) (hn : q.ns = p.ns) (hc : (celP p A c).setIfInBounds i u = celP q A c) (ok : SmP q) : GV w B len bp (V.setCell ⟨bp, i, none⟩ u) q A c :=
  ⟨by rw [hn]; exact h.ln.setG h.box (by decide) (Nat.le_of_lt h.lt), by have := h.box.set i u; rwa [hc] at this, h.lt, tab_other h.res (by have := h.lt; omega), ok⟩
theorem GV.both {w V : World} {B len bp c : Nat} {p : Pl} {A : Option Addr} (h : GV w B len bp V p A c) :
    (V.cell? ⟨bp, 0, none⟩ = some (.string p.c) ∧ V.cell? ⟨bp, 1, none⟩ = some (.int .i64 p.k) ∧ V.cell? ⟨bp, 2, none⟩ = some (.int .i64 p.f) ∧ V.cell? ⟨bp, 3, none⟩ = some (.int .i64 p.u) ∧ V.cell? ⟨bp, 4, none⟩ = some (.slice A p.ns.length c)) ∧
    (V.frozen? ⟨bp, 0, none⟩ = false ∧ V.frozen? ⟨bp, 1, none⟩ = false ∧ V.frozen? ⟨bp, 2, none⟩ = false ∧ V.frozen? ⟨bp, 3, none⟩ = false ∧ V.frozen? ⟨bp, 4, none⟩ = false) ∧
    (V.cell? ⟨w.heap.size, 0, none⟩ = some (.string ⟨#[]⟩) ∧ V.cell? ⟨w.heap.size, 1, none⟩ = some (.int .i64 0) ∧ V.cell? ⟨w.heap.size, 2, none⟩ = some (.int .i64 0) ∧ V.cell? ⟨w.heap.size, 3, none⟩ = some (.int .i64 0) ∧ V.cell? ⟨w.heap.size, 4, none⟩ = some (.slice none 0 0)) ∧
    (V.frozen? ⟨w.heap.size, 0, none⟩ = false ∧ V.frozen? ⟨w.heap.size, 1, none⟩ = false ∧ V.frozen? ⟨w.heap.size, 2, none⟩ = false ∧ V.frozen? ⟨w.heap.size, 3, none⟩ = false ∧ V.frozen? ⟨w.heap.size, 4, none⟩ = false) :=
  ⟨⟨(h.box.cell 0).trans rfl, (h.box.cell 1).trans rfl, (h.box.cell 2).trans rfl, (h.box.cell 3).trans rfl, (h.box.cell 4).trans rfl⟩, ⟨h.box.frozen 0, h.box.frozen 1, h.box.frozen 2, h.box.frozen 3, h.box.frozen 4⟩,
    ⟨(h.res.cell 0).trans rfl, (h.res.cell 1).trans rfl, (h.res.cell 2).trans rfl, (h.res.cell 3).trans rfl, (h.res.cell 4).trans rfl⟩, ⟨h.res.frozen 0, h.res.frozen 1, h.res.frozen 2, h.res.frozen 3, h.res.frozen 4⟩⟩
theorem GV.done {w V : World} {B len bp c : Nat} {p : Pl} {A : Option Addr} (h : GV w B len bp V p A c) :
    LN w w.heap.size B len (putP V w.heap.size p A c) (.slice A p.ns.length c) p.ns.length p.ns ∧
    ((putP V w.heap.size p A c).cell? ⟨w.heap.size, 0, none⟩ = some (.string p.c) ∧ (putP V w.heap.size p A c).cell? ⟨w.heap.size, 1, none⟩ = some (.int .i64 p.k) ∧ (putP V w.heap.size p A c).cell? ⟨w.heap.size, 2, none⟩ = some (.int .i64 p.f) ∧ (putP V w.heap.size p A c).cell? ⟨w.heap.size, 3, none⟩ = some (.int .i64 p.u) ∧ (putP V w.heap.size p A c).cell? ⟨w.heap.size, 4, none⟩ = some (.slice A p.ns.length c)) := by
  have hT := putP_same (p := p) (A := A) (c := c) h.res rfl
  refine ⟨?_, (hT.cell 0).trans rfl, (hT.cell 1).trans rfl, (hT.cell 2).trans rfl, (hT.cell 3).trans rfl, (hT.cell 4).trans rfl⟩
  have r1 := h.res.set 0 (.string p.c)
  have r2 := r1.set 1 (.int .i64 p.k)
  have r3 := r2.set 2 (.int .i64 p.f)
  have r4 := r3.set 3 (.int .i64 p.u)
  exact ((((h.ln.setG h.res (by decide) (Nat.le_refl _)).setG r1 (by decide) (Nat.le_refl _)).setG r2 (by decide) (Nat.le_refl _)).setG r3 (by decide) (Nat.le_refl _)).setG r4 (by decide) (Nat.le_refl _)
/-- A drawn place. -/
def GePost (w : World) (B len : Nat) (e : Ending) (w' : World) : Prop := ∃ (p : Pl) (A : Option Addr) (c : Nat), e = .returned (plv11 p A c) ∧ SmP p ∧ p.ns.length ≤ 13 ∧ LN w w.heap.size B len w' (.slice A p.ns.length c) p.ns.length p.ns

set_option maxHeartbeats 20000000 in
set_option maxRecDepth 100000 in
theorem cGeD (B len : Nat) (w : World) (hlen : len ≤ 1048576) (h : Src w B len) :
    Calls Tryz.prog 54 #[.pointer (some ⟨B, 0, none⟩)] w (GePost w B len) := by
  have hBl := h.lt
  have CN := Lib.hid (fun (V : World) (n : Int) (hV : Src V B len) (h1 : -1000000000 ≤ n) (h2 : n ≤ 10000000000) => cNext B len n V hlen h1 h2 hV)
  obtain ⟨w1, hw1⟩ : ∃ w1 : World, w1 = w.alloc (.cells #[.string ⟨#[]⟩, .int .i64 0, .int .i64 0, .int .i64 0, .slice none 0 0] 29) := ⟨_, rfl⟩
  have HW1 := Lib.hid hw1
  have h1 : Src w1 B len := by rw [hw1]; exact h.alloc _
  have g1 : w.grownBy w1 (some B) := by rw [hw1]; exact World.grownBy_alloc w _ _
  have r1 : TabAt w1 w.heap.size 29 zeroP := by rw [hw1]; exact TabAt.new w _ _
  have CG := Lib.hid (cGdD B len w1 hlen h1)
  have H1 := Lib.hid (And.intro h1 (And.intro g1 r1))
  clear h h1 g1 r1 hw1
  go_enter Tryz.func54, Tryz.ntmps54
  go_wp2_with fail
  rw [← HW1.out]
  refine CG.out.mono ?_
  rintro e w2 ⟨p, A, c, rfl, hp, hle, hln⟩
  have HG : Hid (GV w B len w2.heap.size (w2.alloc (.cells #[.string p.c, .int .i64 p.k, .int .i64 p.f, .int .i64 p.u, .slice A p.ns.length c] 29)) p A c) := Lib.hid (by
    have r2 := tab_src H1.out.2.2 H1.out.1 (by decide) hln.grown
    exact ⟨(hln.down H1.out.2.1 hBl).alloc _, TabAt.new w2 _ _, r2.lt, r2.alloc _, hp.sm⟩)
  have hl13 : p.ns.length ≤ 13 := by omega
  clear hp hle hln H1 HW1 CG
  unfold plv11
  go_wp2_with fail
  refine (CN.out _ 24 HG.out.ln.src (by omega) (by omega)).mono ?_
  rintro e w3 ⟨r, hr0, hr1, rfl, hS3, g3⟩
  have H3 := Lib.hid (HG.out.next hS3 g3)
  clear hS3 g3 HG hr1
  by_cases h0 : r = 0
  · subst h0
    have CP := Lib.hid (cDrawWord B len w3 hlen H3.out.ln.src)
    go_wp2_with fail
    refine CP.out.mono ?_
    rintro e w4 ⟨t, ht, rfl, hS4, g4⟩
    have H4 := Lib.hid (H3.out.next hS4 g4)
    clear hS4 g4 H3 CP
    obtain ⟨⟨a0, a1, a2, a3, a4⟩, ⟨f0, f1, f2, f3, f4⟩, _⟩ := H4.out.both
    have H5 := Lib.hid (H4.out.set (i := 0) (u := .string t) (q := ⟨t, p.k, p.f, p.u, p.ns⟩) rfl rfl ⟨by show t.size ≤ 64; omega, H4.out.ok.2⟩)
    obtain ⟨⟨y0, y1, y2, y3, y4⟩, ⟨z0, z1, z2, z3, z4⟩, ⟨b0, b1, b2, b3, b4⟩, ⟨e0, e1, e2, e3, e4⟩⟩ := H5.out.both
    have HD := Lib.hid H5.out.done
    obtain ⟨_, k0, k1, k2, k3, k4⟩ := HD.out
    unfold putP at k0 k1 k2 k3 k4
    go_wp2_with fail
    refine bodyPost_ret ?_ rfl ⟨⟨t, p.k, p.f, p.u, p.ns⟩, A, c, rfl, H5.out.ok, hl13, HD.out.1⟩
    first | (simp [results, Tryz.results54, go_sem, k0, k1, k2, k3, k4]; done) | (simp [results, Tryz.results54, go_sem, k0, k1, k2, k3, k4]; rfl)
  have d0 : (r == 0) = false := by rw [beq_eq_false_iff_ne]; exact h0
  by_cases h1 : r = 1
  · subst h1
    have HA := Lib.hid (H3.out.next (H3.out.ln.src.alloc (.cells #[.int .i64 (-1), .int .i64 19, .int .i64 20] 2)) (World.grownBy_alloc w3 _ (some B)))
    have HR := Lib.hid (rowLit w3 [-1, 19, 20] (-1) 20 (by decide) 2)
    have hne : w3.heap.size ≠ B := by have := H3.out.ln.src.lt; omega
    have CP := Lib.hid (cPick B len w3.heap.size 3 3 (-1) 20 _ hlen (by omega) (by omega) hne HR.out HA.out.ln.src)
    go_wp2_with fail
    refine CP.out.mono ?_
    rintro e w4 ⟨k, hk0, hk1, rfl, hS4, g4⟩
    have H4 := Lib.hid (HA.out.next hS4 g4)
    clear hS4 g4 H3 CP HA HR
    obtain ⟨⟨a0, a1, a2, a3, a4⟩, ⟨f0, f1, f2, f3, f4⟩, _⟩ := H4.out.both
    have H5 := Lib.hid (H4.out.set (i := 1) (u := .int .i64 k) (q := ⟨p.c, k, p.f, p.u, p.ns⟩) rfl rfl ⟨H4.out.ok.1, by show -4000 ≤ k ∧ k ≤ 4000; omega, H4.out.ok.2.2⟩)
    obtain ⟨⟨y0, y1, y2, y3, y4⟩, ⟨z0, z1, z2, z3, z4⟩, ⟨b0, b1, b2, b3, b4⟩, ⟨e0, e1, e2, e3, e4⟩⟩ := H5.out.both
    have HD := Lib.hid H5.out.done
    obtain ⟨_, k0, k1, k2, k3, k4⟩ := HD.out
    unfold putP at k0 k1 k2 k3 k4
    go_wp2_with fail
    refine bodyPost_ret ?_ rfl ⟨⟨p.c, k, p.f, p.u, p.ns⟩, A, c, rfl, H5.out.ok, hl13, HD.out.1⟩
    first | (simp [results, Tryz.results54, go_sem, k0, k1, k2, k3, k4]; done) | (simp [results, Tryz.results54, go_sem, k0, k1, k2, k3, k4]; rfl)
  have d1 : (r == 1) = false := by rw [beq_eq_false_iff_ne]; exact h1
  by_cases h2 : r = 2
  · subst h2
    have CP := Lib.hid (cDraw2 B len w3 hlen H3.out.ln.src.lt H3.out.ln.src)
    go_wp2_with fail
    refine CP.out.mono ?_
    rintro e w4 ⟨f, u, hf0, hf1, hu0, hu1, rfl, hS4, g4⟩
    have H4 := Lib.hid (H3.out.next hS4 g4)
    clear hS4 g4 H3 CP
    obtain ⟨⟨a0, a1, a2, a3, a4⟩, ⟨f0, f1, f2, f3, f4⟩, _⟩ := H4.out.both
    have H45 := Lib.hid (H4.out.set (i := 2) (u := .int .i64 f) (q := ⟨p.c, p.k, f, p.u, p.ns⟩) rfl rfl ⟨H4.out.ok.1, H4.out.ok.2.1, by show -4000 ≤ f ∧ f ≤ 4000; omega, H4.out.ok.2.2.2⟩)
    have H5 := Lib.hid (H45.out.set (i := 3) (u := .int .i64 u) (q := ⟨p.c, p.k, f, u, p.ns⟩) rfl rfl ⟨H45.out.ok.1, H45.out.ok.2.1, H45.out.ok.2.2.1, by show -4000 ≤ u ∧ u ≤ 4000; omega⟩)
    obtain ⟨⟨y0, y1, y2, y3, y4⟩, ⟨z0, z1, z2, z3, z4⟩, ⟨b0, b1, b2, b3, b4⟩, ⟨e0, e1, e2, e3, e4⟩⟩ := H5.out.both
    have HD := Lib.hid H5.out.done
    obtain ⟨_, k0, k1, k2, k3, k4⟩ := HD.out
    unfold putP at k0 k1 k2 k3 k4
    go_wp2_with fail
    refine bodyPost_ret ?_ rfl ⟨⟨p.c, p.k, f, u, p.ns⟩, A, c, rfl, H5.out.ok, hl13, HD.out.1⟩
    first | (simp [results, Tryz.results54, go_sem, k0, k1, k2, k3, k4]; done) | (simp [results, Tryz.results54, go_sem, k0, k1, k2, k3, k4]; rfl)
  have d2 : (r == 2) = false := by rw [beq_eq_false_iff_ne]; exact h2
  by_cases h3 : r = 3
  · subst h3
    have CP := Lib.hid (cNlD B len w3 hlen H3.out.ln.src)
    go_wp2_with fail
    refine CP.out.mono ?_
    rintro e w4 ⟨v, m, xs, rfl, hm, hln⟩
    have H4 := Lib.hid (H3.out.next hln.src hln.grown)
    have HN := Lib.hid (hln.down H3.out.ln.grown hBl)
    obtain ⟨A', c', rfl, _, hat⟩ := hln.form
    obtain rfl : m = xs.length := hat.1
    clear hln hat H3 CP
    obtain ⟨⟨a0, a1, a2, a3, a4⟩, ⟨f0, f1, f2, f3, f4⟩, _⟩ := H4.out.both
    have H5 : Hid (GV w B len w2.heap.size (w4.setCell ⟨w2.heap.size, 4, none⟩ (.slice A' xs.length c')) ⟨p.c, p.k, p.f, p.u, xs⟩ A' c') := Lib.hid ⟨HN.out.setG H4.out.box (by decide) (Nat.le_of_lt H4.out.lt), H4.out.box.set 4 _, H4.out.lt, tab_other H4.out.res (by have := H4.out.lt; omega), H4.out.ok⟩
    obtain ⟨⟨y0, y1, y2, y3, y4⟩, ⟨z0, z1, z2, z3, z4⟩, ⟨b0, b1, b2, b3, b4⟩, ⟨e0, e1, e2, e3, e4⟩⟩ := H5.out.both
    have HD := Lib.hid H5.out.done
    obtain ⟨_, k0, k1, k2, k3, k4⟩ := HD.out
    unfold putP at k0 k1 k2 k3 k4
    go_wp2_with fail
    refine bodyPost_ret ?_ rfl ⟨⟨p.c, p.k, p.f, p.u, xs⟩, A', c', rfl, H5.out.ok, hm, HD.out.1⟩
    first | (simp [results, Tryz.results54, go_sem, k0, k1, k2, k3, k4]; done) | (simp [results, Tryz.results54, go_sem, k0, k1, k2, k3, k4]; rfl)
  have d3 : (r == 3) = false := by rw [beq_eq_false_iff_ne]; exact h3
  obtain ⟨⟨y0, y1, y2, y3, y4⟩, ⟨z0, z1, z2, z3, z4⟩, ⟨b0, b1, b2, b3, b4⟩, ⟨e0, e1, e2, e3, e4⟩⟩ := H3.out.both
  have HD := Lib.hid H3.out.done
  obtain ⟨_, k0, k1, k2, k3, k4⟩ := HD.out
  unfold putP at k0 k1 k2 k3 k4
  go_wp2_with fail
  refine bodyPost_ret ?_ rfl ⟨p, A, c, rfl, H3.out.ok, hl13, HD.out.1⟩
  first | (simp [results, Tryz.results54, go_sem, k0, k1, k2, k3, k4]; done) | (simp [results, Tryz.results54, go_sem, k0, k1, k2, k3, k4]; rfl)
end Go.Proofs.YtglmibmjbignbaaGreatDoor
