/-
  A box of any cells, in any later world.
-/
import Derived.Test.YtglmibmjbignbaaGreatDoorMy1
import Derived.OwnWalk
import Derived.Laws.OwnMore
import Derived.Below
import Derived.WalkKit
import Derived.Test.YtglmibmjbignbaaGreatDoorMy13
import Derived.Test.YtglmibmjbignbaaGreatDoorNmLaw
import Derived.Test.YtglmibmjbignbaaGreatDoorMy8
import Derived.Test.YtglmibmjbignbaaGreatDoorPlPlain
import Derived.Test.YtglmibmjbignbaaGreatDoorMy10
import Derived.Test.YtglmibmjbignbaaGreatDoorMy9
namespace Go.Proofs.YtglmibmjbignbaaGreatDoor
section
set_option linter.unusedVariables false
open Go.RowKit

/-- Block b holds the cells l, none of them frozen. -/
def Bx (w : World) (b : Nat) (l : List Value) : Prop := b < w.heap.size ∧ ∀ (i : Nat) (v : Value), l[i]? = some v → w.cell? ⟨b, i, none⟩ = some v ∧ w.frozen? ⟨b, i, none⟩ = false
theorem Bx.new (w : World) (cs : Array Value) (t : TypeId) : Bx (w.alloc (.cells cs t)) w.heap.size cs.toList := by
  refine ⟨by simp, fun i v h => ⟨?_, World.frozen?_alloc_new _ _ _ _⟩⟩
  rw [World.cell?_alloc_at _ _ _ _ rfl]; simpa using h
theorem Bx.block {w w' : World} {b : Nat} {l : List Value} (h : Bx w b l) (hs : b < w'.heap.size) (hh : w'.heap[b]? = w.heap[b]?) : Bx w' b l :=
  ⟨hs, fun i v hv => ⟨(World.cell?_of_block (w := w) (a := ⟨b, i, none⟩) hh).trans (h.2 i v hv).1, (World.frozen?_of_block (w := w) (a := ⟨b, i, none⟩) hh).trans (h.2 i v hv).2⟩⟩
theorem Bx.below {w w' : World} {b C : Nat} {l : List Value} (h : Bx w b l) (hb : Below C w w') (hC : b < C) : Bx w' b l := h.block (Nat.lt_of_lt_of_le h.1 hb.size) (hb.block b hC)
theorem Bx.next {w w' : World} {b : Nat} {l : List Value} (h : Bx w b l) (hb : Below w.heap.size w w') : Bx w' b l := h.below hb h.1
theorem Bx.alloc {w : World} {b : Nat} {l : List Value} (h : Bx w b l) (o : Obj) : Bx (w.alloc o) b l := h.next ((Below.refl w.heap.size w).alloc (Nat.le_refl _) o)
theorem Bx.drew {w : World} {b : Nat} {l : List Value} (h : Bx w b l) : Bx w.drew b l := h
theorem Bx.other {w : World} {b g i : Nat} {l : List Value} {u : Value} (h : Bx w b l) (hne : b ≠ g) : Bx (w.setCell ⟨g, i, none⟩ u) b l :=
  h.block (by simpa using h.1) (Below.heap_setCell _ _ _ _ hne)
theorem Bx.set {w : World} {b : Nat} {l : List Value} (h : Bx w b l) (i : Nat) (u : Value) (hi : i < l.length) : Bx (w.setCell ⟨b, i, none⟩ u) b (l.set i u) := by
  refine ⟨by simpa using h.1, fun k v hv => ⟨?_, ?_⟩⟩
  · by_cases hk : i = k
    · subst hk
      rw [List.getElem?_set_self hi] at hv
      obtain rfl := Option.some.inj hv
      exact World.cell?_setCell_same' _ _ _ (by rw [(h.2 i l[i] (List.getElem?_eq_getElem hi)).1]; rfl)
    · rw [List.getElem?_set_ne hk] at hv
      rw [World.cell?_setCell_other _ _ _ _ (by intro e; injection e; omega)]
      exact (h.2 k v hv).1
  · have : ∃ v', l[k]? = some v' := by
      have hl := (List.getElem?_eq_some_iff.1 hv).1
      rw [List.length_set] at hl
      exact ⟨_, List.getElem?_eq_getElem hl⟩
    obtain ⟨v', hv'⟩ := this
    exact (World.frozen?_setCell _ _ _ _).trans (h.2 k v' hv').2
theorem Bx.grown {w w' : World} {b B : Nat} {l : List Value} (h : Bx w b l) (hg : w.grownBy w' (some B)) (hne : b ≠ B) : Bx w' b l :=
  h.block (Nat.lt_of_lt_of_le h.1 hg.size) (hg.block b h.1 (fun e => hne (by injection e)))
theorem Bx.five {w : World} {b : Nat} {v0 v1 v2 v3 v4 : Value} (h : Bx w b [v0, v1, v2, v3, v4]) :
    w.cell? ⟨b, 0, none⟩ = some v0 ∧ w.cell? ⟨b, 1, none⟩ = some v1 ∧ w.cell? ⟨b, 2, none⟩ = some v2 ∧ w.cell? ⟨b, 3, none⟩ = some v3 ∧ w.cell? ⟨b, 4, none⟩ = some v4 ∧
    w.frozen? ⟨b, 0, none⟩ = false ∧ w.frozen? ⟨b, 1, none⟩ = false ∧ w.frozen? ⟨b, 2, none⟩ = false ∧ w.frozen? ⟨b, 3, none⟩ = false ∧ w.frozen? ⟨b, 4, none⟩ = false :=
  ⟨(h.2 0 v0 rfl).1, (h.2 1 v1 rfl).1, (h.2 2 v2 rfl).1, (h.2 3 v3 rfl).1, (h.2 4 v4 rfl).1, (h.2 0 v0 rfl).2, (h.2 1 v1 rfl).2, (h.2 2 v2 rfl).2, (h.2 3 v3 rfl).2, (h.2 4 v4 rfl).2⟩
/-- What may be done to a box with five cells without touching another. -/
theorem below_alloc11 (w : World) (o : Obj) : Below w.heap.size w (w.alloc o) := (Below.refl _ _).alloc (Nat.le_refl _) o
end
section
set_option linter.unusedVariables false
open Go.RowKit

abbrev plv11 (p : Pl) (A : Option Addr) (d : Nat) : Value := .agg #[.string p.c, .int .i64 p.k, .int .i64 p.f, .int .i64 p.u, .slice A p.ns.length d]
def totNs (xs : List Nm) : Nat := (xs.map fun x => x.t.size + x.l.size).sum
def totP (p : Pl) : Nat := p.c.size + p.ns.length + totNs p.ns
def totPs (ps : List Pl) : Nat := (ps.map totP).sum
theorem totNs_step {xs : List Nm} {k : Nat} {x : Nm} (h : xs[k]? = some x) : totNs (xs.take (k + 1)) = totNs (xs.take k) + (x.t.size + x.l.size) := by
  rw [take_snoc9 h]; simp [totNs]
theorem totPs_step {xs : List Pl} {k : Nat} {x : Pl} (h : xs[k]? = some x) : totPs (xs.take (k + 1)) = totPs (xs.take k) + totP x := by
  rw [take_snoc9 h]; simp [totPs]
theorem totNs_mem {xs : List Nm} {x : Nm} (h : x ∈ xs) : x.t.size + x.l.size ≤ totNs xs := by
  induction xs with
  | nil => cases h
  | cons y ys ih =>
    have : totNs (y :: ys) = y.t.size + y.l.size + totNs ys := by simp [totNs]
    rw [List.mem_cons] at h
    rcases h with rfl | h
    · omega
    · have := ih h; omega
theorem totPs_mem {xs : List Pl} {x : Pl} (h : x ∈ xs) : totP x ≤ totPs xs := by
  induction xs with
  | nil => cases h
  | cons y ys ih =>
    have : totPs (y :: ys) = totP y + totPs ys := by simp [totPs]
    rw [List.mem_cons] at h
    rcases h with rfl | h
    · omega
    · have := ih h; omega
/-- A bound on the sum bounds each. -/
theorem sz_of_tot {p : Pl} {m : Nat} (h : totP p ≤ m) : p.c.size ≤ m ∧ p.ns.length ≤ m ∧ ∀ e ∈ p.ns, e.t.size ≤ m ∧ e.l.size ≤ m := by
  unfold totP at h
  exact ⟨by omega, by omega, fun e he => by have := totNs_mem he; omega⟩
theorem sz_of_tots {ps : List Pl} {m : Nat} (h : totPs ps ≤ m) : ∀ p ∈ ps, p.c.size ≤ m ∧ p.ns.length ≤ m ∧ ∀ e ∈ p.ns, e.t.size ≤ m ∧ e.l.size ≤ m :=
  fun p hp => sz_of_tot (by have := totPs_mem hp; omega)

/-- What is left of r when m is taken off, or less than nothing. -/
def Left (m : Nat) (r : Int) (w : World) (e : Ending) (w' : World) : Prop := ∃ q : Int, (q < 0 ∨ (0 ≤ q ∧ q + (m : Int) = r)) ∧ e = .returned (.int .i64 q) ∧ Below w.heap.size w w'
theorem szN1x (x : Nm) (r : Int) (w : World) (hr0 : 0 ≤ r) (hr1 : r ≤ 1048576) (ho : x.t.size ≤ maxLen) (hn : x.l.size ≤ maxLen) :
    Calls Tryz.prog 179 #[nmA x, .int .i64 r] w (Left (x.t.size + x.l.size) r w) := by
  obtain ⟨o, n, c, f, u⟩ := x
  dsimp only at ho hn ⊢
  unfold maxLen at ho hn
  have hb : Hid (Below w.heap.size w (w.alloc (.cells #[.string o, .string n, .int .i64 c, .int .i64 f, .int .i64 u] 187))) := Lib.hid ((Below.refl _ _).alloc (Nat.le_refl _) _)
  by_cases h1 : r < o.size
  · go_enter Tryz.func179, Tryz.ntmps179
    go_wp2
    go_ret
    exact ⟨-1, .inl (by omega), rfl, hb.out⟩
  have h1' : (o.size : Int) ≤ r := by omega
  by_cases h2 : r - o.size < n.size
  · go_enter Tryz.func179, Tryz.ntmps179
    go_wp2
    go_ret
    exact ⟨-1, .inl (by omega), rfl, hb.out⟩
  · go_enter Tryz.func179, Tryz.ntmps179
    go_wp2
    go_ret
    exact ⟨r - o.size - n.size, .inr ⟨by omega, by omega⟩, rfl, hb.out⟩
set_option maxHeartbeats 1000000 in
theorem uSzNr (A : Option Addr) (n cap : Nat) (xs : List Nm) (r0 : Int) (w : World) (hr0 : 0 ≤ r0) (hr1 : r0 ≤ 1048576) (hm : n ≤ maxLen) (hs : ∀ e ∈ xs, e.t.size ≤ maxLen ∧ e.l.size ≤ maxLen) (h : NmAt w w.heap.size A n xs) :
    Calls Tryz.prog 148 #[.slice A n cap, .int .i64 r0] w (Left (n + totNs xs) r0 w) := by
  unfold maxLen at hm
  have HT := Lib.hid h
  have HN := Lib.hid h.1
  have HS := Lib.hid hs
  clear h hs
  by_cases h1 : r0 < n
  · go_enter Tryz.func148, Tryz.ntmps148
    go_wp2
    go_ret
    exact ⟨-1, .inl (by omega), rfl, Below.refl _ _⟩
  have h1' : (n : Int) ≤ r0 := by omega
  go_enter Tryz.func148, Tryz.ntmps148
  go_wp2
  go_loopw [1, 5] (fun l i wr => ∃ (k : Nat) (r : Int), k ≤ n ∧ i = .int .i64 k ∧ l = .int .i64 r ∧ 0 ≤ r ∧ r ≤ 1048576 ∧ Hid (r + (totNs (xs.take k) : Int) = r0 - n) ∧ Below w.heap.size w wr) (fun _ i _ => n - (intOf i).toNat)
  case atStart => exact ⟨0, _, Nat.zero_le _, rfl, rfl, by omega, by omega, Lib.hid (by simp [totNs]), Below.refl _ _⟩
  case round =>
    obtain ⟨k, r, hk, rfl, rfl, hr2, hr3, HA, hbw⟩ := hrel
    by_cases hlt : k < n
    · obtain ⟨x, hx⟩ : ∃ x, xs[k]? = some x := ⟨xs[k]'(by have := HN.out; omega), List.getElem?_eq_getElem _⟩
      obtain ⟨b, o, rfl, _, c0, c1, c2, c3, c4⟩ := (HT.out.below hbw (Nat.le_refl _)).row hx
      have hsx := HS.out x (List.mem_of_getElem? hx)
      have HZ := Lib.hid (szN1x x r wr hr2 hr3 hsx.1 hsx.2)
      have HX := Lib.hid (totNs_step hx)
      have u1 : (0 : Int) ≤ (k : Int) := Int.natCast_nonneg _
      have u2 : (k : Int) < (n : Int) := by omega
      clear hx hsx
      go_wp2_with fail
      refine HZ.out.mono ?_
      rintro e w2 ⟨q, hq, rfl, hb2⟩
      have hbt := hbw.trans (hb2.mono hbw.size)
      clear hb2
      rcases hq with hq2 | ⟨hq2, hq3⟩
      · go_wp2_with fail
        go_ret
        exact ⟨-1, .inl (by omega), rfl, hbt⟩
      · have hq1 : q ≤ 1048576 := by omega
        have HA2 : Hid (q + (totNs (xs.take (k + 1)) : Int) = r0 - n) := Lib.hid (by have h1 := HX.out; have h2 := HA.out; rw [h1]; push_cast at *; omega)
        clear hq3
        go_wp2_with fail
        go_roundw
        case rel => exact ⟨k + 1, q, by omega, by go_num, rfl, hq2, hq1, HA2, hbt⟩
        case measure => simp [intOf]; omega
    · have HF : Hid (r + ((n + totNs xs : Nat) : Int) = r0) := Lib.hid (by
        have h2 := HA.out
        rw [List.take_of_length_le (by have := HN.out; omega)] at h2
        push_cast; omega)
      go_wp2
      go_ret
      exact ⟨r, .inr ⟨hr2, HF.out⟩, rfl, hbw⟩

set_option maxHeartbeats 1000000 in
theorem uSzPl1 (p : Pl) (A : Option Addr) (d : Nat) (r : Int) (w : World) (hr0 : 0 ≤ r) (hr1 : r ≤ 1048576) (hs : SzL p) (h : NmAt w w.heap.size A p.ns.length p.ns) :
    Calls Tryz.prog 108 #[plv11 p A d, .int .i64 r] w (Left (totP p) r w) := by
  obtain ⟨c, k, f, u, ns⟩ := p
  obtain ⟨hs1, hs2, hs3⟩ := hs
  unfold plv11
  dsimp only at hs1 hs2 hs3 h ⊢
  obtain ⟨n, hn⟩ : ∃ n, n = ns.length := ⟨_, rfl⟩
  rw [← hn] at hs2 h ⊢
  have HTP : Hid (totP ⟨c, k, f, u, ns⟩ = c.size + n + totNs ns) := Lib.hid (by unfold totP; rw [hn])
  have hb : Below w.heap.size w (w.alloc (.cells #[.string c, .int .i64 k, .int .i64 f, .int .i64 u, .slice A n d] 125)) := (Below.refl _ _).alloc (Nat.le_refl _) _
  have HB := Lib.hid hb
  have HZ : Hid (∀ q : Int, 0 ≤ q → q ≤ 1048576 → Calls Tryz.prog 148 #[.slice A n d, .int .i64 q] (w.alloc (.cells #[.string c, .int .i64 k, .int .i64 f, .int .i64 u, .slice A n d] 125)) (Left (n + totNs ns) q (w.alloc (.cells #[.string c, .int .i64 k, .int .i64 f, .int .i64 u, .slice A n d] 125)))) :=
    Lib.hid (fun q h0 h1 => uSzNr A n d ns q _ h0 h1 hs2 hs3 (h.grow hb))
  unfold maxLen at hs1 hs2
  clear h hs3 hb hn
  by_cases h1 : r < c.size
  · go_enter Tryz.func108, Tryz.ntmps108
    go_wp2
    go_ret
    exact ⟨-1, .inl (by omega), rfl, HB.out⟩
  have h1' : (c.size : Int) ≤ r := by omega
  have hq0 : 0 ≤ r - c.size := by omega
  have hq1 : r - c.size ≤ 1048576 := by omega
  go_enter Tryz.func108, Tryz.ntmps108
  go_wp2_with fail
  refine (HZ.out _ hq0 hq1).mono ?_
  rintro e w2 ⟨q, hq, rfl, hb2⟩
  have hbt := bstep9 HB.out HB.out.size hb2
  clear hb2
  rcases hq with hq2 | ⟨hq2, hq3⟩
  · go_wp2_with fail
    go_ret
    exact ⟨-1, .inl (by omega), rfl, hbt⟩
  · have HF : Hid (q + ((c.size + n + totNs ns : Nat) : Int) = r) := Lib.hid (by push_cast at *; omega)
    clear hq3
    go_wp2_with fail
    go_ret
    exact ⟨q, .inr ⟨hq2, by rw [HTP.out]; exact HF.out⟩, rfl, hbt⟩
set_option maxHeartbeats 1000000 in
theorem uSzPl (A : Option Addr) (n cap : Nat) (ps : List Pl) (r0 : Int) (w : World) (hr0 : 0 ≤ r0) (hr1 : r0 ≤ 1048576) (hm : n ≤ maxLen) (hs : ∀ p ∈ ps, SzL p) (h : PlAt w w.heap.size A n ps) :
    Calls Tryz.prog 40 #[.slice A n cap, .int .i64 r0] w (Left (n + totPs ps) r0 w) := by
  unfold maxLen at hm
  have HT := Lib.hid h
  have HN := Lib.hid h.1
  have HS := Lib.hid hs
  clear h hs
  by_cases h1 : r0 < n
  · go_enter Tryz.func40, Tryz.ntmps40
    go_wp2
    go_ret
    exact ⟨-1, .inl (by omega), rfl, Below.refl _ _⟩
  have h1' : (n : Int) ≤ r0 := by omega
  go_enter Tryz.func40, Tryz.ntmps40
  go_wp2
  go_loopw [1, 5] (fun l i wr => ∃ (k : Nat) (r : Int), k ≤ n ∧ i = .int .i64 k ∧ l = .int .i64 r ∧ 0 ≤ r ∧ r ≤ 1048576 ∧ Hid (r + (totPs (ps.take k) : Int) = r0 - n) ∧ Below w.heap.size w wr) (fun _ i _ => n - (intOf i).toNat)
  case atStart => exact ⟨0, _, Nat.zero_le _, rfl, rfl, by omega, by omega, Lib.hid (by simp [totPs]), Below.refl _ _⟩
  case round =>
    obtain ⟨k, r, hk, rfl, rfl, hr2, hr3, HA, hbw⟩ := hrel
    by_cases hlt : k < n
    · obtain ⟨p, hp⟩ : ∃ p, ps[k]? = some p := ⟨ps[k]'(by have := HN.out; omega), List.getElem?_eq_getElem _⟩
      obtain ⟨b, o, rfl, _, A', d', c0, c1, c2, c3, c4, hnm, _⟩ := (HT.out.below hbw (Nat.le_refl _)).row hp
      have hsx := HS.out p (List.mem_of_getElem? hp)
      have HZ := Lib.hid (uSzPl1 p A' d' r wr hr2 hr3 hsx (hnm.more hbw.size))
      have HX := Lib.hid (totPs_step hp)
      have u1 : (0 : Int) ≤ (k : Int) := Int.natCast_nonneg _
      have u2 : (k : Int) < (n : Int) := by omega
      clear hp hsx hnm
      go_wp2_with fail
      refine HZ.out.mono ?_
      rintro e w2 ⟨q, hq, rfl, hb2⟩
      have hbt := hbw.trans (hb2.mono hbw.size)
      clear hb2
      rcases hq with hq2 | ⟨hq2, hq3⟩
      · go_wp2_with fail
        go_ret
        exact ⟨-1, .inl (by omega), rfl, hbt⟩
      · have hq1 : q ≤ 1048576 := by omega
        have HA2 : Hid (q + (totPs (ps.take (k + 1)) : Int) = r0 - n) := Lib.hid (by have h1 := HX.out; have h2 := HA.out; rw [h1]; push_cast at *; omega)
        clear hq3
        go_wp2_with fail
        go_roundw
        case rel => exact ⟨k + 1, q, by omega, by go_num, rfl, hq2, hq1, HA2, hbt⟩
        case measure => simp [intOf]; omega
    · have HF : Hid (r + ((n + totPs ps : Nat) : Int) = r0) := Lib.hid (by
        have h2 := HA.out
        rw [List.take_of_length_le (by have := HN.out; omega)] at h2
        push_cast; omega)
      go_wp2
      go_ret
      exact ⟨r, .inr ⟨hr2, HF.out⟩, rfl, hbw⟩

/-- A place by value with names in a row of one's own. -/
def CopyPl1 (p : Pl) (w : World) (e : Ending) (w' : World) : Prop := ∃ A, e = .returned (plv11 p A p.ns.length) ∧ w'.ownsRow w.heap.size 100 5 (.slice A p.ns.length p.ns.length) p.ns.length (nmV p.ns) ∧ Below w.heap.size w w'
set_option maxHeartbeats 2000000 in
set_option maxRecDepth 100000 in
theorem uToPl1 (p : Pl) (A : Option Addr) (d : Nat) (w : World) (hb : p.ns.length ≤ 1048576) (h : NmAt w w.heap.size A p.ns.length p.ns) :
    Calls Tryz.prog 109 #[plv11 p A d] w (CopyPl1 p w) := by
  obtain ⟨c, k, f, u, ns⟩ := p
  unfold CopyPl1 plv11
  dsimp only at hb h ⊢
  obtain ⟨n, hn⟩ : ∃ n, n = ns.length := ⟨_, rfl⟩
  rw [← hn] at hb h ⊢
  have CS := Lib.hid (cToSpan f u)
  have CN := Lib.hid (fun W (hW : Below w.heap.size w W) => uToN A n d ns W hb (h.grow hW))
  clear h hn
  obtain ⟨W0, hW0⟩ : ∃ W0 : World, W0 = ((w.alloc (.cells #[.string c, .int .i64 k, .int .i64 f, .int .i64 u, .slice A n d] 125)).alloc (.cells #[.string ⟨#[]⟩, .int .i64 0, .int .i64 0, .int .i64 0, .slice none 0 0] 29)).alloc (.cells #[.string c, .int .i64 k, .int .i64 0, .int .i64 0, .slice none 0 0] 29) := ⟨_, rfl⟩
  have B0 : Below w.heap.size w W0 := by rw [hW0]; exact (((Below.refl _ _).alloc (Nat.le_refl _) _).alloc (by simp) _).alloc (by simp; omega) _
  have X0 : Bx W0 w.heap.size [.string c, .int .i64 k, .int .i64 f, .int .i64 u, .slice A n d] := by rw [hW0]; exact ((Bx.new w _ _).alloc _).alloc _
  have Y0 : Bx W0 (w.heap.size + 1) [.string ⟨#[]⟩, .int .i64 0, .int .i64 0, .int .i64 0, .slice none 0 0] := by
    rw [hW0]
    have := (Bx.new (w.alloc (.cells #[.string c, .int .i64 k, .int .i64 f, .int .i64 u, .slice A n d] 125)) #[.string ⟨#[]⟩, .int .i64 0, .int .i64 0, .int .i64 0, .slice none 0 0] 29).alloc (.cells #[.string c, .int .i64 k, .int .i64 0, .int .i64 0, .slice none 0 0] 29)
    simpa using this
  have Z0 : Bx W0 (w.heap.size + 1 + 1) [.string c, .int .i64 k, .int .i64 0, .int .i64 0, .slice none 0 0] := by
    rw [hW0]
    have := Bx.new ((w.alloc (.cells #[.string c, .int .i64 k, .int .i64 f, .int .i64 u, .slice A n d] 125)).alloc (.cells #[.string ⟨#[]⟩, .int .i64 0, .int .i64 0, .int .i64 0, .slice none 0 0] 29)) #[.string c, .int .i64 k, .int .i64 0, .int .i64 0, .slice none 0 0] 29
    simpa using this
  have S0 : W0.heap.size = w.heap.size + 3 := by rw [hW0]; simp
  have HX := Lib.hid X0
  have HY := Lib.hid Y0
  have HZ := Lib.hid Z0
  have HB0 := Lib.hid B0
  have HS0 := Lib.hid S0
  have HW := Lib.hid hW0
  clear X0 Y0 Z0 B0 S0 hW0
  go_enter Tryz.func109, Tryz.ntmps109
  go_wp2_with fail
  rw [← HW.out]
  refine (CS.out _).mono ?_
  rintro e w1 ⟨rfl, g1⟩
  have X1 := HX.out.next g1
  have Y1 := HY.out.next g1
  have Z1 := HZ.out.next g1
  have Z2 := (Z1.set 2 (.int .i64 f) (by simp)).set 3 (.int .i64 u) (by simp)
  have X2 : Bx ((w1.setCell ⟨w.heap.size + 1 + 1, 2, none⟩ (.int .i64 f)).setCell ⟨w.heap.size + 1 + 1, 3, none⟩ (.int .i64 u)) w.heap.size _ := (X1.other (by omega)).other (by omega)
  have Y2 : Bx ((w1.setCell ⟨w.heap.size + 1 + 1, 2, none⟩ (.int .i64 f)).setCell ⟨w.heap.size + 1 + 1, 3, none⟩ (.int .i64 u)) (w.heap.size + 1) _ := (Y1.other (by omega)).other (by omega)
  have B1 := bstep9 HB0.out HB0.out.size g1
  have B2 := (B1.setCell (p := ⟨w.heap.size + 1 + 1, 2, none⟩) (by simp; omega) (.int .i64 f)).setCell (p := ⟨w.heap.size + 1 + 1, 3, none⟩) (by simp; omega) (.int .i64 u)
  have CN2 := Lib.hid (CN.out _ B2)
  obtain ⟨z0, z1, z2, z3, z4, f0, f1, f2, f3, f4⟩ := Z1.five
  obtain ⟨x0, x1, x2, x3, x4, _⟩ := X2.five
  have HX2 := Lib.hid X2
  have HY2 := Lib.hid Y2
  have HZ2 := Lib.hid Z2
  have HB2 := Lib.hid B2
  clear X1 Y1 Z1 Z2 X2 Y2 B1 B2 CN g1
  go_wp2_with fail
  refine CN2.out.mono ?_
  rintro e w3 ⟨A', rfl, hown, g3⟩
  have Z3 := HZ2.out.next g3
  have Y3 := HY2.out.next g3
  have Z4 := Z3.set 4 (.slice A' n n) (by simp)
  have Y4 : Bx (w3.setCell ⟨w.heap.size + 1 + 1, 4, none⟩ (.slice A' n n)) (w.heap.size + 1) _ := Y3.other (by omega)
  have B3 := bstep9 HB2.out HB2.out.size g3
  have hlt : ∀ b, (Value.slice A' n n).ownBlock = some b → w.heap.size + 3 ≤ b := fun b hb => by
    have h1 := (hown.lt b hb).1
    have h2 := HB2.out.size
    have h3 := HS0.out
    simp at h1
    have h4 := HZ2.out.1
    simp at h4
    omega
  have HOW := Lib.hid hown
  have HLT := Lib.hid hlt
  obtain ⟨z0', z1', z2', z3', z4', f0', f1', f2', f3', f4'⟩ := Z3.five
  obtain ⟨y0, y1, y2, y3, y4, h0, h1, h2, h3, h4⟩ := Y3.five
  have HB3 := Lib.hid B3
  clear hown hlt B3 g3 z0 z1 z2 z3 z4 f0 f1 f2 f3 f4 Z3 Y3
  obtain ⟨v0, v1, v2, v3, v4, _⟩ := Z4.five
  clear Z4 Y4
  go_wp2_with fail
  refine bodyPost_ret (v := .agg #[.string c, .int .i64 k, .int .i64 f, .int .i64 u, .slice A' n n]) ?_ rfl ⟨A', rfl, ?_, ?_⟩
  · simp [results, Tryz.results109, go_sem, World.cell?_setCell_other, World.cell?_setCell_same', y0, y1, y2, y3, y4]
  · refine own_any11 (own_block11 HOW.out (fun b hb => ?_)) (fun b hb => by have := HLT.out b hb; omega)
    have hlb := HLT.out b hb
    have key : ∀ (W : World) (g i : Nat) (v : Value), b ≠ g → (W.setCell ⟨g, i, none⟩ v).heap[b]? = W.heap[b]? := fun W g i v h => Below.heap_setCell _ _ _ _ h
    simp only [key _ (w.heap.size + 1) _ _ (by omega), key _ (w.heap.size + 1 + 1) _ _ (by omega)]
  · exact below_set5 (HB3.out.setCell (p := ⟨w.heap.size + 1 + 1, 4, none⟩) (by simp; omega) _) (by omega) 0 1 2 3 4 _ _ _ _ _
end
section
set_option linter.unusedVariables false
open Go.RowKit

theorem cHolds2 (x y u v : Int) (w : World) :
    Calls Tryz.prog 124 #[.agg #[.int .i64 x, .int .i64 y], .agg #[.int .i64 u, .int .i64 v]] w fun e w' => e = .returned (.bool (decide (x ≤ u) && decide (v ≤ y))) ∧ Below w.heap.size w w' := by
  have C1 := Lib.hid (fun W => cMeet x y u v W)
  obtain ⟨W0, hW0⟩ : ∃ W0 : World, W0 = (w.alloc (.cells #[.int .i64 x, .int .i64 y] 26)).alloc (.cells #[.int .i64 u, .int .i64 v] 26) := ⟨_, rfl⟩
  have B0 : Below w.heap.size w W0 := by rw [hW0]; exact ((Below.refl _ _).alloc (Nat.le_refl _) _).alloc (by simp) _
  have K1 : BoxAt W0 w.heap.size x y := by rw [hW0]; exact (BoxAt.new w x y _).alloc _
  have K2 : BoxAt W0 (w.heap.size + 1) u v := by rw [hW0]; have h := BoxAt.new (w.alloc (.cells #[.int .i64 x, .int .i64 y] 26)) u v 26; simpa using h
  have HW := Lib.hid hW0
  clear hW0
  go_enter Tryz.func124, Tryz.ntmps124
  go_wp2_with fail
  rw [← HW.out]
  clear HW
  obtain ⟨l1, a0, a1⟩ := K1
  obtain ⟨l2, b0, b1⟩ := K2
  obtain ⟨T, f, t0, hT, ht0, hf, hback⟩ := class_of W0
  have k0 : ∀ t, (f t).cell? ⟨w.heap.size, 0, none⟩ = some (.int .i64 x) := fun t => ((hf t).cell (p := ⟨w.heap.size, 0, none⟩) l1).trans a0
  have k1 : ∀ t, (f t).cell? ⟨w.heap.size, 1, none⟩ = some (.int .i64 y) := fun t => ((hf t).cell (p := ⟨w.heap.size, 1, none⟩) l1).trans a1
  have k2 : ∀ t, (f t).cell? ⟨w.heap.size + 1, 0, none⟩ = some (.int .i64 u) := fun t => ((hf t).cell (p := ⟨w.heap.size + 1, 0, none⟩) l2).trans b0
  have k3 : ∀ t, (f t).cell? ⟨w.heap.size + 1, 1, none⟩ = some (.int .i64 v) := fun t => ((hf t).cell (p := ⟨w.heap.size + 1, 1, none⟩) l2).trans b1
  have HF := Lib.hid hf
  have HK := Lib.hid hback
  clear hf hback
  refine wp_region_class f t0 ht0 (by kernel_rfl) (by kernel_rfl) ?_
  clear ht0
  have hEq := fun W => run_eqSp (max x u) (min y v) u v W
  have hGd := guard_span
  repeat (go_big_quiet_step (first | (go_at_call 125; exact Calls.class_of HF.out HK.out (C1.out _))))
  refine wpQuiet_nil ?_
  rintro w' ⟨t, rfl⟩
  have hbt := B0.trans ((HF.out t).mono B0.size)
  go_wp2
  go_ret
  refine ⟨ret_bool ?_, hbt⟩
  rw [Bool.eq_iff_iff]
  simp
  omega

/-- The closure that asks whether a name lies outside of the years that it has taken up. -/
theorem cOut1 (x : Nm) (gb : Nat) (f u : Int) (w : World) (hb : Bx w gb [.int .i64 f, .int .i64 u]) :
    Calls Tryz.prog 171 #[nmA x, .pointer (some ⟨gb, 0, none⟩)] w fun e w' => e = .returned (.bool (!(wiB f u x))) ∧ Below w.heap.size w w' := by
  have CH := Lib.hid (fun W => cHolds2 f u x.f x.u W)
  have hA : Below w.heap.size w (w.alloc (.cells #[.string x.t, .string x.l, .int .i64 x.s, .int .i64 x.f, .int .i64 x.u] 100)) := (Below.refl _ _).alloc (Nat.le_refl _) _
  have k0 := (hb.2 0 _ rfl).1
  have k1 := (hb.2 1 _ rfl).1
  have hl := hb.1
  have HA := Lib.hid hA
  have HX : Hid (wiB f u x = (decide (f ≤ x.f) && decide (x.u ≤ u))) := Lib.hid rfl
  rw [HX.out]
  obtain ⟨q, hq⟩ : ∃ q, q = (decide (f ≤ x.f) && decide (x.u ≤ u)) := ⟨_, rfl⟩
  rw [← hq] at CH ⊢
  clear hA hb HX hq
  go_enter Tryz.func171, Tryz.ntmps171
  go_wp2_with fail
  refine (CH.out _).mono ?_
  rintro e w1 ⟨rfl, g1⟩
  have hbt := bstep9 HA.out HA.out.size g1
  clear g1
  go_wp2_with fail
  go_ret
  exact ⟨rfl, hbt⟩

def outB (f u : Int) (x : Nm) : Bool := !(wiB f u x)
theorem anyW_step {f u : Int} {xs : List Nm} {k : Nat} {y : Nm} (h : xs[k]? = some y) (ha : (xs.take k).any (outB f u) = false) (hc : outB f u y = false) : (xs.take (k + 1)).any (outB f u) = false := by
  rw [take_snoc9 h, List.any_append, ha]; simp [hc]
theorem anyW_hit {f u : Int} {xs : List Nm} {k : Nat} {y : Nm} (h : xs[k]? = some y) (hc : outB f u y = true) : xs.any (outB f u) = true := List.any_eq_true.2 ⟨y, List.mem_of_getElem? h, hc⟩
theorem all_any (f u : Int) (xs : List Nm) : xs.all (wiB f u) = !(xs.any (outB f u)) := by
  induction xs with
  | nil => rfl
  | cons x xs ih => rw [List.all_cons, List.any_cons, ih]; unfold outB; cases wiB f u x <;> simp

def IdxW (f u : Int) (xs : List Nm) (w : World) (e : Ending) (w' : World) : Prop :=
  (∃ r : Int, e = .returned (.int .i64 r) ∧ ((xs.any (outB f u) = true ∧ 0 ≤ r) ∨ (xs.any (outB f u) = false ∧ r = -1))) ∧ Below w.heap.size w w'
set_option maxHeartbeats 1000000 in
set_option maxRecDepth 100000 in
theorem cIdxW (A : Option Addr) (n c gb : Nat) (f u : Int) (xs : List Nm) (w : World) (hb : n ≤ 1048576) (h : NmAt w w.heap.size A n xs) (hB : Bx w gb [.int .i64 f, .int .i64 u]) :
    Calls Tryz.prog 189 #[.slice A n c, .func (.func 171) #[] #[.pointer (some ⟨gb, 0, none⟩)]] w (IdxW f u xs w) := by
  have C := Lib.hid (fun y W (hW : Below w.heap.size w W) => cOut1 y gb f u W (hB.next hW))
  have HN := Lib.hid h.1
  have H := Lib.hid h
  clear h hB
  go_enter Tryz.func189, Tryz.ntmps189
  go_wp2
  go_loopw [8] (fun i wr => ∃ k : Nat, k ≤ n ∧ i = .int .i64 k ∧ Hid ((xs.take k).any (outB f u) = false) ∧ Below w.heap.size w wr) (fun i _ => n - (intOf i).toNat)
  case atStart => exact ⟨0, Nat.zero_le _, rfl, Lib.hid (by simp), Below.refl _ _⟩
  case round =>
    obtain ⟨k, hk, rfl, HA, hbw⟩ := hrel
    by_cases hlt : k < n
    · obtain ⟨y, hy⟩ : ∃ y, xs[k]? = some y := ⟨xs[k]'(by have := HN.out; omega), List.getElem?_eq_getElem _⟩
      obtain ⟨b, o, rfl, hbl, c0, c1, c2, c3, c4⟩ := (H.out.below hbw (Nat.le_refl _)).row hy
      have CC := Lib.hid (C.out y wr hbw)
      rw [show (!(wiB f u y)) = outB f u y from rfl] at CC
      have HY := Lib.hid hy
      have u1 : (0 : Int) ≤ (k : Int) := Int.natCast_nonneg _
      have u2 : (k : Int) < (n : Int) := by omega
      clear hy
      cases hv : outB f u y
      · rw [hv] at CC
        have HA2 := Lib.hid (anyW_step HY.out HA.out hv)
        clear hv
        go_wp2_with fail
        refine CC.out.mono ?_
        rintro e w1 ⟨rfl, g1⟩
        have hbt := bstep9 hbw hbw.size g1
        clear g1 c0 c1 c2 c3 c4
        go_wp2_with fail
        go_roundw
        case rel => exact ⟨k + 1, by omega, by go_num, HA2, hbt⟩
        case measure => simp [intOf]; omega
      · rw [hv] at CC
        have HA2 := Lib.hid (anyW_hit HY.out hv)
        clear hv
        go_wp2_with fail
        refine CC.out.mono ?_
        rintro e w1 ⟨rfl, g1⟩
        have hbt := bstep9 hbw hbw.size g1
        clear g1 c0 c1 c2 c3 c4
        go_wp2_with fail
        go_ret
        exact ⟨⟨_, rfl, .inl ⟨HA2.out, by omega⟩⟩, hbt⟩
    · have HA2 : Hid (xs.any (outB f u) = false) := Lib.hid (by have := HA.out; rwa [List.take_of_length_le (by have := HN.out; omega)] at this)
      go_wp2
      go_ret
      exact ⟨⟨_, rfl, .inr ⟨HA2.out, rfl⟩⟩, hbw⟩
theorem cContW (A : Option Addr) (n c gb : Nat) (f u : Int) (xs : List Nm) (w : World) (hb : n ≤ 1048576) (h : NmAt w w.heap.size A n xs) (hB : Bx w gb [.int .i64 f, .int .i64 u]) :
    Calls Tryz.prog 170 #[.slice A n c, .func (.func 171) #[] #[.pointer (some ⟨gb, 0, none⟩)]] w fun e w' => e = .returned (.bool (xs.any (outB f u))) ∧ Below w.heap.size w w' := by
  have C := Lib.hid (cIdxW A n c gb f u xs w hb h hB)
  clear h hB
  go_enter Tryz.func170, Tryz.ntmps170
  go_wp2_with fail
  refine C.out.mono ?_
  rintro e w' ⟨⟨r, rfl, hc⟩, hb1⟩
  rcases hc with ⟨ha, hr⟩ | ⟨ha, rfl⟩
  · have HA := Lib.hid ha
    clear ha
    go_wp2_with fail
    go_ret
    exact ⟨ret_bool HA.out.symm, hb1⟩
  · have HA := Lib.hid ha
    clear ha
    go_wp2_with fail
    go_ret
    exact ⟨ret_bool HA.out.symm, hb1⟩

set_option maxHeartbeats 1000000 in
theorem cLie (A : Option Addr) (n c : Nat) (f u : Int) (xs : List Nm) (w : World) (hb : n ≤ 1048576) (hz : Sz9 xs) (h : NmAt w w.heap.size A n xs) (hcap : n ≤ c) (hsh : w.ShapedOpen Tryz.prog) (her : Er6 w) :
    Calls Tryz.prog 132 #[.slice A n c, .agg #[.int .i64 f, .int .i64 u]] w fun e w' => e = .returned (.bool (namesB xs && xs.all (wiB f u))) ∧ Below w.heap.size w w' := by
  have hmf : ∀ (fn : Fn) (first cap : Array Value) (w : World), (Instr.makeFunc fn first cap).run Tryz.prog w = .ok (.func fn first cap) w := fun _ _ _ _ => rfl
  have hA : Below w.heap.size w (w.alloc (.cells #[.int .i64 f, .int .i64 u] 26)) := (Below.refl _ _).alloc (Nat.le_refl _) _
  have CN := Lib.hid (cAreN_impl A n c xs _ hb hz (h.grow hA) hcap (shaped_below hsh hA) (her.below hA))
  have CW := Lib.hid (fun W (hW : Below w.heap.size w W) (hB : Bx W w.heap.size [.int .i64 f, .int .i64 u]) => cContW A n c w.heap.size f u xs W hb (h.grow hW) hB)
  have HB := Lib.hid (Bx.new w #[.int .i64 f, .int .i64 u] 26)
  have HA := Lib.hid hA
  clear h hz hsh her hA
  rw [all_any]
  obtain ⟨a, ha⟩ : ∃ a, a = namesB xs := ⟨_, rfl⟩
  obtain ⟨q, hq⟩ : ∃ q, q = xs.any (outB f u) := ⟨_, rfl⟩
  rw [← ha] at CN ⊢
  rw [← hq] at CW ⊢
  clear ha hq
  go_enter Tryz.func132, Tryz.ntmps132
  go_wp2_with fail
  refine CN.out.mono ?_
  rintro e w1 ⟨rfl, g1⟩
  have hbt := bstep9 HA.out HA.out.size g1
  have CW1 := Lib.hid (CW.out w1 hbt (HB.out.next g1))
  clear g1
  cases a
  · go_wp2_with fail
    go_ret
    exact ⟨rfl, hbt⟩
  · go_wp2_with fail
    refine CW1.out.mono ?_
    rintro e w2 ⟨rfl, g2⟩
    have hbt2 := bstep9 hbt hbt.size g2
    clear g2
    go_wp2_with fail
    go_ret
    exact ⟨ret_bool (by simp), hbt2⟩

abbrev enA (p : Pl) (A : Option Addr) (d : Nat) : Value := .agg #[.slice A p.ns.length d, .string p.c, .int .i64 p.k, .int .i64 p.f, .int .i64 p.u]
theorem cEntry (p : Pl) (A : Option Addr) (d : Nat) (w : World) :
    Calls Tryz.prog 65 #[plv11 p A d] w fun e w' => e = .returned (enA p A d) ∧ Below w.heap.size w w' := by
  obtain ⟨c, k, f, u, ns⟩ := p
  unfold plv11 enA
  dsimp only
  obtain ⟨n, hn⟩ : ∃ n, n = ns.length := ⟨_, rfl⟩
  rw [← hn]
  clear hn
  go_enter Tryz.func65, Tryz.ntmps65
  go_wp2_with fail
  refine bodyPost_ret (v := .agg #[.slice A n d, .string c, .int .i64 k, .int .i64 f, .int .i64 u]) ?_ rfl ⟨rfl, ?_⟩
  · simp [results, Tryz.results65, go_sem, World.cell?_alloc_at]
  · go_grown

set_option maxHeartbeats 1000000 in
theorem cRight (p : Pl) (A : Option Addr) (d : Nat) (w : World) (hc : p.c.size ≤ maxLen) (hb : p.ns.length ≤ 1048576) (hz : Sz9 p.ns) (h : NmAt w w.heap.size A p.ns.length p.ns) (hcap : p.ns.length ≤ d) (hsh : w.ShapedOpen Tryz.prog) (her : Er6 w) :
    Calls Tryz.prog 81 #[enA p A d] w fun e w' => e = .returned (.bool (plB p)) ∧ Below w.heap.size w w' := by
  have hcs := pl_cases p
  obtain ⟨c, k, f, u, ns⟩ := p
  unfold enA
  dsimp only at hc hb hz h hcap hcs ⊢
  obtain ⟨b, hbb⟩ : ∃ b, b = plB ⟨c, k, f, u, ns⟩ := ⟨_, rfl⟩
  rw [← hbb] at hcs ⊢
  clear hbb
  have CW := Lib.hid (fun W => cIsWord_impl c W hc)
  have CV := Lib.hid (fun W => cValid f u W)
  have CL := Lib.hid (fun W (hW : Below w.heap.size w W) => cLie A ns.length d f u ns W hb hz (h.grow hW) hcap (shaped_below hsh hW) (her.below hW))
  clear h hz hsh her
  obtain ⟨n, hn⟩ : ∃ n, n = ns.length := ⟨_, rfl⟩
  rw [← hn] at hb hcap CL ⊢
  clear hn
  have HA := Lib.hid (below_alloc11 w (.cells #[.slice A n d, .string c, .int .i64 k, .int .i64 f, .int .i64 u] 87))
  have HX := Lib.hid (Bx.new w #[.slice A n d, .string c, .int .i64 k, .int .i64 f, .int .i64 u] 87)
  rcases hcs with ⟨rfl, e1, e2, e3, e4, e5, e6⟩ | ⟨rfl, e1 | ⟨e1, e2 | ⟨e2, e3, e4 | ⟨e4, e5⟩⟩⟩⟩
  · rw [e1] at CW
    rw [e4] at CV
    rw [e5, e6] at CL
    clear e1 e4 e5 e6
    go_enter Tryz.func81, Tryz.ntmps81
    go_wp2_with fail
    refine (CW.out _).mono ?_
    rintro e w1 ⟨rfl, rfl⟩
    go_wp2_with fail
    refine (CV.out _).mono ?_
    rintro e w2 ⟨rfl, g2⟩
    obtain ⟨x0, x1, x2, x3, x4, _⟩ := (HX.out.next g2).five
    have hbt := bstep9 HA.out HA.out.size g2
    have CL2 := Lib.hid (CL.out _ hbt)
    clear g2
    go_wp2_with fail
    refine CL2.out.mono ?_
    rintro e w3 ⟨rfl, g3⟩
    have hbt3 := bstep9 hbt hbt.size g3
    clear g3 x0 x1 x2 x3 x4
    go_wp2_with fail
    go_ret
    exact ⟨rfl, hbt3⟩
  · rw [e1] at CW
    clear e1
    go_enter Tryz.func81, Tryz.ntmps81
    go_wp2_with fail
    refine (CW.out _).mono ?_
    rintro e w1 ⟨rfl, rfl⟩
    go_wp2_with fail
    go_ret
    exact ⟨rfl, HA.out⟩
  · rw [e1] at CW
    clear e1
    by_cases hk : 0 ≤ k
    · have hk2 : ¬ k < 20 := by simp [hk] at e2; omega
      clear e2
      go_enter Tryz.func81, Tryz.ntmps81
      go_wp2_with fail
      refine (CW.out _).mono ?_
      rintro e w1 ⟨rfl, rfl⟩
      go_wp2_with fail
      go_ret
      exact ⟨rfl, HA.out⟩
    · clear e2
      go_enter Tryz.func81, Tryz.ntmps81
      go_wp2_with fail
      refine (CW.out _).mono ?_
      rintro e w1 ⟨rfl, rfl⟩
      go_wp2_with fail
      go_ret
      exact ⟨rfl, HA.out⟩
  · rw [e1] at CW
    rw [e4] at CV
    clear e1 e4
    go_enter Tryz.func81, Tryz.ntmps81
    go_wp2_with fail
    refine (CW.out _).mono ?_
    rintro e w1 ⟨rfl, rfl⟩
    go_wp2_with fail
    refine (CV.out _).mono ?_
    rintro e w2 ⟨rfl, g2⟩
    have hbt := bstep9 HA.out HA.out.size g2
    clear g2
    go_wp2_with fail
    go_ret
    exact ⟨rfl, hbt⟩
  · have e6 : (namesB ns && ns.all (wiB f u)) = false := by
      rcases e5 with e5 | ⟨e5, e6⟩
      · rw [e5]; rfl
      · rw [e5, e6]; rfl
    rw [e1] at CW
    rw [e4] at CV
    rw [e6] at CL
    clear e1 e4 e5 e6
    go_enter Tryz.func81, Tryz.ntmps81
    go_wp2_with fail
    refine (CW.out _).mono ?_
    rintro e w1 ⟨rfl, rfl⟩
    go_wp2_with fail
    refine (CV.out _).mono ?_
    rintro e w2 ⟨rfl, g2⟩
    obtain ⟨x0, x1, x2, x3, x4, _⟩ := (HX.out.next g2).five
    have hbt := bstep9 HA.out HA.out.size g2
    have CL2 := Lib.hid (CL.out _ hbt)
    clear g2
    go_wp2_with fail
    refine CL2.out.mono ?_
    rintro e w3 ⟨rfl, g3⟩
    have hbt3 := bstep9 hbt hbt.size g3
    clear g3 x0 x1 x2 x3 x4
    go_wp2_with fail
    go_ret
    exact ⟨rfl, hbt3⟩
set_option maxHeartbeats 1000000 in
theorem cIsPl_impl (p : Pl) (A : Option Addr) (d : Nat) (w : World) (hc : p.c.size ≤ maxLen) (hb : p.ns.length ≤ 1048576) (hz : Sz9 p.ns) (h : NmAt w w.heap.size A p.ns.length p.ns) (hcap : p.ns.length ≤ d) (hsh : w.ShapedOpen Tryz.prog) (her : Er6 w) :
    Calls Tryz.prog 25 #[plv11 p A d] w fun e w' => e = .returned (.bool (plB p)) ∧ Below w.heap.size w w' := by
  have CE := Lib.hid (fun W => cEntry p A d W)
  have CR := Lib.hid (fun W (hW : Below w.heap.size w W) => cRight p A d W hc hb hz (h.grow hW) hcap (shaped_below hsh hW) (her.below hW))
  clear h hz hsh her
  obtain ⟨b, hbb⟩ : ∃ b, b = plB p := ⟨_, rfl⟩
  rw [← hbb] at CR ⊢
  clear hbb
  have HA := Lib.hid (below_alloc11 w (.cells #[.string p.c, .int .i64 p.k, .int .i64 p.f, .int .i64 p.u, .slice A p.ns.length d] 29))
  go_enter Tryz.func25, Tryz.ntmps25
  go_wp2_with fail
  refine (CE.out _).mono ?_
  rintro e w1 ⟨rfl, g1⟩
  have hbt := bstep9 HA.out HA.out.size g1
  have CR2 := Lib.hid (CR.out _ hbt)
  clear g1
  go_wp2_with fail
  refine CR2.out.mono ?_
  rintro e w2 ⟨rfl, g2⟩
  have hbt2 := bstep9 hbt hbt.size g2
  clear g2
  go_wp2_with fail
  go_ret
  exact ⟨rfl, hbt2⟩
end
end Go.Proofs.YtglmibmjbignbaaGreatDoor
