/-
  The laws' helpers on places: szPlace, szPlaceS, toPlace, toPlaceS, eqPlace, eqPlaceS.
-/
import Derived.Test.YtglmibmjbignbaaGreatDoorMz10
import Derived.Test.YtglmibmjbignbaaGreatDoorMz9
import Derived.Test.YtglmibmjbignbaaGreatDoorMz11
namespace Go.Proofs.YtglmibmjbignbaaGreatDoor
set_option linter.unusedVariables false
open Go.RowKit

abbrev plv11 (p : Pl) (A : Option Addr) (d : Nat) : Value := .agg #[.string p.c, .int .i64 p.k, .int .i64 p.f, .int .i64 p.u, .slice A p.ns.length d]
def totNs (xs : List Nm) : Nat := (xs.map fun x => x.t.size + x.l.size).sum
def totP (p : Pl) : Nat := p.c.size + p.ns.length + totNs p.ns
def totPs (ps : List Pl) : Nat := (ps.map totP).sum
theorem totNs_step {xs : List Nm} {k : Nat} {x : Nm} (h : xs[k]? = some x) : totNs (xs.take (k + 1)) = totNs (xs.take k) + (x.t.size + x.l.size) := by
  rw [take_snoc9 h]; simp [totNs]
theorem totPs_step {xs : List Pl} {k : Nat} {x : Pl} (h : xs[k]? = some x) : totPs (xs.take (k + 1)) = totPs (xs.take k) + totP x := by
  rw [take_snoc9 h]; simp [totPs]
theorem totNs_mem {xs : List Nm} {x : Nm} (h : x ∈ xs) : x.t.size + x.l.size ≤ totNs xs := by
  induction xs with
  | nil => cases h
  | cons y ys ih =>
    have : totNs (y :: ys) = y.t.size + y.l.size + totNs ys := by simp [totNs]
    rw [List.mem_cons] at h
    rcases h with rfl | h
    · omega
    · have := ih h; omega
theorem totPs_mem {xs : List Pl} {x : Pl} (h : x ∈ xs) : totP x ≤ totPs xs := by
  induction xs with
  | nil => cases h
  | cons y ys ih =>
    have : totPs (y :: ys) = totP y + totPs ys := by simp [totPs]
    rw [List.mem_cons] at h
    rcases h with rfl | h
    · omega
    · have := ih h; omega
/-- A bound on the sum bounds each. -/
theorem sz_of_tot {p : Pl} {m : Nat} (h : totP p ≤ m) : p.c.size ≤ m ∧ p.ns.length ≤ m ∧ ∀ e ∈ p.ns, e.t.size ≤ m ∧ e.l.size ≤ m := by
  unfold totP at h
  exact ⟨by omega, by omega, fun e he => by have := totNs_mem he; omega⟩
theorem sz_of_tots {ps : List Pl} {m : Nat} (h : totPs ps ≤ m) : ∀ p ∈ ps, p.c.size ≤ m ∧ p.ns.length ≤ m ∧ ∀ e ∈ p.ns, e.t.size ≤ m ∧ e.l.size ≤ m :=
  fun p hp => sz_of_tot (by have := totPs_mem hp; omega)

/-- What is left of r when m is taken off, or less than nothing. -/
def Left (m : Nat) (r : Int) (w : World) (e : Ending) (w' : World) : Prop := ∃ q : Int, (q < 0 ∨ (0 ≤ q ∧ q + (m : Int) = r)) ∧ e = .returned (.int .i64 q) ∧ Below w.heap.size w w'
theorem szN1x (x : Nm) (r : Int) (w : World) (hr0 : 0 ≤ r) (hr1 : r ≤ 1048576) (ho : x.t.size ≤ maxLen) (hn : x.l.size ≤ maxLen) :
    Calls Tryz.prog 179 #[nmA x, .int .i64 r] w (Left (x.t.size + x.l.size) r w) := by
  obtain ⟨o, n, c, f, u⟩ := x
  dsimp only at ho hn ⊢
  unfold maxLen at ho hn
  have hb : Hid (Below w.heap.size w (w.alloc (.cells #[.string o, .string n, .int .i64 c, .int .i64 f, .int .i64 u] 187))) := Lib.hid ((Below.refl _ _).alloc (Nat.le_refl _) _)
  by_cases h1 : r < o.size
  · go_enter Tryz.func179, Tryz.ntmps179
    go_wp2
    go_ret
    exact ⟨-1, .inl (by omega), rfl, hb.out⟩
  have h1' : (o.size : Int) ≤ r := by omega
  by_cases h2 : r - o.size < n.size
  · go_enter Tryz.func179, Tryz.ntmps179
    go_wp2
    go_ret
    exact ⟨-1, .inl (by omega), rfl, hb.out⟩
  · go_enter Tryz.func179, Tryz.ntmps179
    go_wp2
    go_ret
    exact ⟨r - o.size - n.size, .inr ⟨by omega, by omega⟩, rfl, hb.out⟩
set_option maxHeartbeats 1000000 in
theorem uSzNr (A : Option Addr) (n cap : Nat) (xs : List Nm) (r0 : Int) (w : World) (hr0 : 0 ≤ r0) (hr1 : r0 ≤ 1048576) (hm : n ≤ maxLen) (hs : ∀ e ∈ xs, e.t.size ≤ maxLen ∧ e.l.size ≤ maxLen) (h : NmAt w w.heap.size A n xs) :
    Calls Tryz.prog 148 #[.slice A n cap, .int .i64 r0] w (Left (n + totNs xs) r0 w) := by
  unfold maxLen at hm
  have HT := Lib.hid h
  have HN := Lib.hid h.1
  have HS := Lib.hid hs
  clear h hs
  by_cases h1 : r0 < n
  · go_enter Tryz.func148, Tryz.ntmps148
    go_wp2
    go_ret
    exact ⟨-1, .inl (by omega), rfl, Below.refl _ _⟩
  have h1' : (n : Int) ≤ r0 := by omega
  go_enter Tryz.func148, Tryz.ntmps148
  go_wp2
  go_loopw [1, 5] (fun l i wr => ∃ (k : Nat) (r : Int), k ≤ n ∧ i = .int .i64 k ∧ l = .int .i64 r ∧ 0 ≤ r ∧ r ≤ 1048576 ∧ Hid (r + (totNs (xs.take k) : Int) = r0 - n) ∧ Below w.heap.size w wr) (fun _ i _ => n - (intOf i).toNat)
  case atStart => exact ⟨0, _, Nat.zero_le _, rfl, rfl, by omega, by omega, Lib.hid (by simp [totNs]), Below.refl _ _⟩
  case round =>
    obtain ⟨k, r, hk, rfl, rfl, hr2, hr3, HA, hbw⟩ := hrel
    by_cases hlt : k < n
    · obtain ⟨x, hx⟩ : ∃ x, xs[k]? = some x := ⟨xs[k]'(by have := HN.out; omega), List.getElem?_eq_getElem _⟩
      obtain ⟨b, o, rfl, _, c0, c1, c2, c3, c4⟩ := (HT.out.below hbw (Nat.le_refl _)).row hx
      have hsx := HS.out x (List.mem_of_getElem? hx)
      have HZ := Lib.hid (szN1x x r wr hr2 hr3 hsx.1 hsx.2)
      have HX := Lib.hid (totNs_step hx)
      have u1 : (0 : Int) ≤ (k : Int) := Int.natCast_nonneg _
      have u2 : (k : Int) < (n : Int) := by omega
      clear hx hsx
      go_wp2_with fail
      refine HZ.out.mono ?_
      rintro e w2 ⟨q, hq, rfl, hb2⟩
      have hbt := hbw.trans (hb2.mono hbw.size)
      clear hb2
      rcases hq with hq2 | ⟨hq2, hq3⟩
      · go_wp2_with fail
        go_ret
        exact ⟨-1, .inl (by omega), rfl, hbt⟩
      · have hq1 : q ≤ 1048576 := by omega
        have HA2 : Hid (q + (totNs (xs.take (k + 1)) : Int) = r0 - n) := Lib.hid (by have h1 := HX.out; have h2 := HA.out; rw [h1]; push_cast at *; omega)
        clear hq3
        go_wp2_with fail
        go_roundw
        case rel => exact ⟨k + 1, q, by omega, by go_num, rfl, hq2, hq1, HA2, hbt⟩
        case measure => simp [intOf]; omega
    · have HF : Hid (r + ((n + totNs xs : Nat) : Int) = r0) := Lib.hid (by
        have h2 := HA.out
        rw [List.take_of_length_le (by have := HN.out; omega)] at h2
        push_cast; omega)
      go_wp2
      go_ret
      exact ⟨r, .inr ⟨hr2, HF.out⟩, rfl, hbw⟩

set_option maxHeartbeats 1000000 in
theorem uSzPl1 (p : Pl) (A : Option Addr) (d : Nat) (r : Int) (w : World) (hr0 : 0 ≤ r) (hr1 : r ≤ 1048576) (hs : SzL p) (h : NmAt w w.heap.size A p.ns.length p.ns) :
    Calls Tryz.prog 108 #[plv11 p A d, .int .i64 r] w (Left (totP p) r w) := by
  obtain ⟨c, k, f, u, ns⟩ := p
  obtain ⟨hs1, hs2, hs3⟩ := hs
  unfold plv11
  dsimp only at hs1 hs2 hs3 h ⊢
  obtain ⟨n, hn⟩ : ∃ n, n = ns.length := ⟨_, rfl⟩
  rw [← hn] at hs2 h ⊢
  have HTP : Hid (totP ⟨c, k, f, u, ns⟩ = c.size + n + totNs ns) := Lib.hid (by unfold totP; rw [hn])
  have hb : Below w.heap.size w (w.alloc (.cells #[.string c, .int .i64 k, .int .i64 f, .int .i64 u, .slice A n d] 125)) := (Below.refl _ _).alloc (Nat.le_refl _) _
  have HB := Lib.hid hb
  have HZ : Hid (∀ q : Int, 0 ≤ q → q ≤ 1048576 → Calls Tryz.prog 148 #[.slice A n d, .int .i64 q] (w.alloc (.cells #[.string c, .int .i64 k, .int .i64 f, .int .i64 u, .slice A n d] 125)) (Left (n + totNs ns) q (w.alloc (.cells #[.string c, .int .i64 k, .int .i64 f, .int .i64 u, .slice A n d] 125)))) :=
    Lib.hid (fun q h0 h1 => uSzNr A n d ns q _ h0 h1 hs2 hs3 (h.grow hb))
  unfold maxLen at hs1 hs2
  clear h hs3 hb hn
  by_cases h1 : r < c.size
  · go_enter Tryz.func108, Tryz.ntmps108
    go_wp2
    go_ret
    exact ⟨-1, .inl (by omega), rfl, HB.out⟩
  have h1' : (c.size : Int) ≤ r := by omega
  have hq0 : 0 ≤ r - c.size := by omega
  have hq1 : r - c.size ≤ 1048576 := by omega
  go_enter Tryz.func108, Tryz.ntmps108
  go_wp2_with fail
  refine (HZ.out _ hq0 hq1).mono ?_
  rintro e w2 ⟨q, hq, rfl, hb2⟩
  have hbt := bstep9 HB.out HB.out.size hb2
  clear hb2
  rcases hq with hq2 | ⟨hq2, hq3⟩
  · go_wp2_with fail
    go_ret
    exact ⟨-1, .inl (by omega), rfl, hbt⟩
  · have HF : Hid (q + ((c.size + n + totNs ns : Nat) : Int) = r) := Lib.hid (by push_cast at *; omega)
    clear hq3
    go_wp2_with fail
    go_ret
    exact ⟨q, .inr ⟨hq2, by rw [HTP.out]; exact HF.out⟩, rfl, hbt⟩
set_option maxHeartbeats 1000000 in
theorem uSzPl (A : Option Addr) (n cap : Nat) (ps : List Pl) (r0 : Int) (w : World) (hr0 : 0 ≤ r0) (hr1 : r0 ≤ 1048576) (hm : n ≤ maxLen) (hs : ∀ p ∈ ps, SzL p) (h : PlAt w w.heap.size A n ps) :
    Calls Tryz.prog 40 #[.slice A n cap, .int .i64 r0] w (Left (n + totPs ps) r0 w) := by
  unfold maxLen at hm
  have HT := Lib.hid h
  have HN := Lib.hid h.1
  have HS := Lib.hid hs
  clear h hs
  by_cases h1 : r0 < n
  · go_enter Tryz.func40, Tryz.ntmps40
    go_wp2
    go_ret
    exact ⟨-1, .inl (by omega), rfl, Below.refl _ _⟩
  have h1' : (n : Int) ≤ r0 := by omega
  go_enter Tryz.func40, Tryz.ntmps40
  go_wp2
  go_loopw [1, 5] (fun l i wr => ∃ (k : Nat) (r : Int), k ≤ n ∧ i = .int .i64 k ∧ l = .int .i64 r ∧ 0 ≤ r ∧ r ≤ 1048576 ∧ Hid (r + (totPs (ps.take k) : Int) = r0 - n) ∧ Below w.heap.size w wr) (fun _ i _ => n - (intOf i).toNat)
  case atStart => exact ⟨0, _, Nat.zero_le _, rfl, rfl, by omega, by omega, Lib.hid (by simp [totPs]), Below.refl _ _⟩
  case round =>
    obtain ⟨k, r, hk, rfl, rfl, hr2, hr3, HA, hbw⟩ := hrel
    by_cases hlt : k < n
    · obtain ⟨p, hp⟩ : ∃ p, ps[k]? = some p := ⟨ps[k]'(by have := HN.out; omega), List.getElem?_eq_getElem _⟩
      obtain ⟨b, o, rfl, _, A', d', c0, c1, c2, c3, c4, hnm, _⟩ := (HT.out.below hbw (Nat.le_refl _)).row hp
      have hsx := HS.out p (List.mem_of_getElem? hp)
      have HZ := Lib.hid (uSzPl1 p A' d' r wr hr2 hr3 hsx (hnm.more hbw.size))
      have HX := Lib.hid (totPs_step hp)
      have u1 : (0 : Int) ≤ (k : Int) := Int.natCast_nonneg _
      have u2 : (k : Int) < (n : Int) := by omega
      clear hp hsx hnm
      go_wp2_with fail
      refine HZ.out.mono ?_
      rintro e w2 ⟨q, hq, rfl, hb2⟩
      have hbt := hbw.trans (hb2.mono hbw.size)
      clear hb2
      rcases hq with hq2 | ⟨hq2, hq3⟩
      · go_wp2_with fail
        go_ret
        exact ⟨-1, .inl (by omega), rfl, hbt⟩
      · have hq1 : q ≤ 1048576 := by omega
        have HA2 : Hid (q + (totPs (ps.take (k + 1)) : Int) = r0 - n) := Lib.hid (by have h1 := HX.out; have h2 := HA.out; rw [h1]; push_cast at *; omega)
        clear hq3
        go_wp2_with fail
        go_roundw
        case rel => exact ⟨k + 1, q, by omega, by go_num, rfl, hq2, hq1, HA2, hbt⟩
        case measure => simp [intOf]; omega
    · have HF : Hid (r + ((n + totPs ps : Nat) : Int) = r0) := Lib.hid (by
        have h2 := HA.out
        rw [List.take_of_length_le (by have := HN.out; omega)] at h2
        push_cast; omega)
      go_wp2
      go_ret
      exact ⟨r, .inr ⟨hr2, HF.out⟩, rfl, hbw⟩

/-- A place by value with names in a row of one's own. -/
def CopyPl1 (p : Pl) (w : World) (e : Ending) (w' : World) : Prop := ∃ A, e = .returned (plv11 p A p.ns.length) ∧ w'.ownsRow w.heap.size 100 5 (.slice A p.ns.length p.ns.length) p.ns.length (nmV p.ns) ∧ Below w.heap.size w w'
set_option maxHeartbeats 2000000 in
set_option maxRecDepth 100000 in
theorem uToPl1 (p : Pl) (A : Option Addr) (d : Nat) (w : World) (hb : p.ns.length ≤ 1048576) (h : NmAt w w.heap.size A p.ns.length p.ns) :
    Calls Tryz.prog 109 #[plv11 p A d] w (CopyPl1 p w) := by
  obtain ⟨c, k, f, u, ns⟩ := p
  unfold CopyPl1 plv11
  dsimp only at hb h ⊢
  obtain ⟨n, hn⟩ : ∃ n, n = ns.length := ⟨_, rfl⟩
  rw [← hn] at hb h ⊢
  have CS := Lib.hid (cToSpan f u)
  have CN := Lib.hid (fun W (hW : Below w.heap.size w W) => uToN A n d ns W hb (h.grow hW))
  clear h hn
  obtain ⟨W0, hW0⟩ : ∃ W0 : World, W0 = ((w.alloc (.cells #[.string c, .int .i64 k, .int .i64 f, .int .i64 u, .slice A n d] 125)).alloc (.cells #[.string ⟨#[]⟩, .int .i64 0, .int .i64 0, .int .i64 0, .slice none 0 0] 29)).alloc (.cells #[.string c, .int .i64 k, .int .i64 0, .int .i64 0, .slice none 0 0] 29) := ⟨_, rfl⟩
  have B0 : Below w.heap.size w W0 := by rw [hW0]; exact (((Below.refl _ _).alloc (Nat.le_refl _) _).alloc (by simp) _).alloc (by simp; omega) _
  have X0 : Bx W0 w.heap.size [.string c, .int .i64 k, .int .i64 f, .int .i64 u, .slice A n d] := by rw [hW0]; exact ((Bx.new w _ _).alloc _).alloc _
  have Y0 : Bx W0 (w.heap.size + 1) [.string ⟨#[]⟩, .int .i64 0, .int .i64 0, .int .i64 0, .slice none 0 0] := by
    rw [hW0]
    have := (Bx.new (w.alloc (.cells #[.string c, .int .i64 k, .int .i64 f, .int .i64 u, .slice A n d] 125)) #[.string ⟨#[]⟩, .int .i64 0, .int .i64 0, .int .i64 0, .slice none 0 0] 29).alloc (.cells #[.string c, .int .i64 k, .int .i64 0, .int .i64 0, .slice none 0 0] 29)
    simpa using this
  have Z0 : Bx W0 (w.heap.size + 1 + 1) [.string c, .int .i64 k, .int .i64 0, .int .i64 0, .slice none 0 0] := by
    rw [hW0]
    have := Bx.new ((w.alloc (.cells #[.string c, .int .i64 k, .int .i64 f, .int .i64 u, .slice A n d] 125)).alloc (.cells #[.string ⟨#[]⟩, .int .i64 0, .int .i64 0, .int .i64 0, .slice none 0 0] 29)) #[.string c, .int .i64 k, .int .i64 0, .int .i64 0, .slice none 0 0] 29
    simpa using this
  have S0 : W0.heap.size = w.heap.size + 3 := by rw [hW0]; simp
  have HX := Lib.hid X0
  have HY := Lib.hid Y0
  have HZ := Lib.hid Z0
  have HB0 := Lib.hid B0
  have HS0 := Lib.hid S0
  have HW := Lib.hid hW0
  clear X0 Y0 Z0 B0 S0 hW0
  go_enter Tryz.func109, Tryz.ntmps109
  go_wp2_with fail
  rw [← HW.out]
  refine (CS.out _).mono ?_
  rintro e w1 ⟨rfl, g1⟩
  have X1 := HX.out.next g1
  have Y1 := HY.out.next g1
  have Z1 := HZ.out.next g1
  have Z2 := (Z1.set 2 (.int .i64 f) (by simp)).set 3 (.int .i64 u) (by simp)
  have X2 : Bx ((w1.setCell ⟨w.heap.size + 1 + 1, 2, none⟩ (.int .i64 f)).setCell ⟨w.heap.size + 1 + 1, 3, none⟩ (.int .i64 u)) w.heap.size _ := (X1.other (by omega)).other (by omega)
  have Y2 : Bx ((w1.setCell ⟨w.heap.size + 1 + 1, 2, none⟩ (.int .i64 f)).setCell ⟨w.heap.size + 1 + 1, 3, none⟩ (.int .i64 u)) (w.heap.size + 1) _ := (Y1.other (by omega)).other (by omega)
  have B1 := bstep9 HB0.out HB0.out.size g1
  have B2 := (B1.setCell (p := ⟨w.heap.size + 1 + 1, 2, none⟩) (by simp; omega) (.int .i64 f)).setCell (p := ⟨w.heap.size + 1 + 1, 3, none⟩) (by simp; omega) (.int .i64 u)
  have CN2 := Lib.hid (CN.out _ B2)
  obtain ⟨z0, z1, z2, z3, z4, f0, f1, f2, f3, f4⟩ := Z1.five
  obtain ⟨x0, x1, x2, x3, x4, _⟩ := X2.five
  have HX2 := Lib.hid X2
  have HY2 := Lib.hid Y2
  have HZ2 := Lib.hid Z2
  have HB2 := Lib.hid B2
  clear X1 Y1 Z1 Z2 X2 Y2 B1 B2 CN g1
  go_wp2_with fail
  refine CN2.out.mono ?_
  rintro e w3 ⟨A', rfl, hown, g3⟩
  have Z3 := HZ2.out.next g3
  have Y3 := HY2.out.next g3
  have Z4 := Z3.set 4 (.slice A' n n) (by simp)
  have Y4 : Bx (w3.setCell ⟨w.heap.size + 1 + 1, 4, none⟩ (.slice A' n n)) (w.heap.size + 1) _ := Y3.other (by omega)
  have B3 := bstep9 HB2.out HB2.out.size g3
  have hlt : ∀ b, (Value.slice A' n n).ownBlock = some b → w.heap.size + 3 ≤ b := fun b hb => by
    have h1 := (hown.lt b hb).1
    have h2 := HB2.out.size
    have h3 := HS0.out
    simp at h1
    have h4 := HZ2.out.1
    simp at h4
    omega
  have HOW := Lib.hid hown
  have HLT := Lib.hid hlt
  obtain ⟨z0', z1', z2', z3', z4', f0', f1', f2', f3', f4'⟩ := Z3.five
  obtain ⟨y0, y1, y2, y3, y4, h0, h1, h2, h3, h4⟩ := Y3.five
  have HB3 := Lib.hid B3
  clear hown hlt B3 g3 z0 z1 z2 z3 z4 f0 f1 f2 f3 f4 Z3 Y3
  obtain ⟨v0, v1, v2, v3, v4, _⟩ := Z4.five
  clear Z4 Y4
  go_wp2_with fail
  refine bodyPost_ret (v := .agg #[.string c, .int .i64 k, .int .i64 f, .int .i64 u, .slice A' n n]) ?_ rfl ⟨A', rfl, ?_, ?_⟩
  · simp [results, Tryz.results109, go_sem, World.cell?_setCell_other, World.cell?_setCell_same', y0, y1, y2, y3, y4]
  · refine own_any11 (own_block11 HOW.out (fun b hb => ?_)) (fun b hb => by have := HLT.out b hb; omega)
    have hlb := HLT.out b hb
    have key : ∀ (W : World) (g i : Nat) (v : Value), b ≠ g → (W.setCell ⟨g, i, none⟩ v).heap[b]? = W.heap[b]? := fun W g i v h => Below.heap_setCell _ _ _ _ h
    simp only [key _ (w.heap.size + 1) _ _ (by omega), key _ (w.heap.size + 1 + 1) _ _ (by omega)]
  · exact below_set5 (HB3.out.setCell (p := ⟨w.heap.size + 1 + 1, 4, none⟩) (by simp; omega) _) (by omega) 0 1 2 3 4 _ _ _ _ _
end Go.Proofs.YtglmibmjbignbaaGreatDoor
