/-
  The contracts of spec.l11YearOf and spec.l11CodeOf, and of the draws of registers.
-/
import Derived.Test.YtglmibmjbignbaaGreatDoorGlD
import Derived.Test.YtglmibmjbignbaaGreatDoorCodeArg
namespace Go.Proofs.YtglmibmjbignbaaGreatDoor
set_option linter.unusedVariables false
open Go.RowKit

def YrP (w : World) (B len : Nat) (e : Ending) (w' : World) : Prop := ∃ r : Int, e = .returned (.int .i64 r) ∧ (-4100 ≤ r ∧ r ≤ 4100) ∧ Src w' B len ∧ w.grownBy w' (some B)
set_option maxHeartbeats 2000000 in
theorem cYrD (B len : Nat) (w : World) (hlen : len ≤ 1048576) (h : Src w B len) :
    Calls Tryz.prog 63 #[.pointer (some ⟨B, 0, none⟩)] w (YrP w B len) := by
  have CN := Lib.hid (fun (V : World) (n : Int) (hV : Src V B len) (h1 : -1000000000 ≤ n) (h2 : n ≤ 10000000000) => cNext B len n V hlen h1 h2 hV)
  have HS := Lib.hid h
  have CP : Hid (∀ (V : World) (a b c d : Int), Src V B len → 0 ≤ a → a < 1200 → 0 ≤ b → b < 500 → 0 ≤ c → c < 500 → 0 ≤ d → d < 1200 → Calls Tryz.prog 62 #[.pointer (some ⟨B, 0, none⟩), .slice (some ⟨V.heap.size, 0, none⟩) 6 6] (V.alloc (.cells #[.int .i64 (1000 + a), .int .i64 (1300 + b), .int .i64 (1300 + c), .int .i64 3000, .int .i64 3001, .int .i64 (1000 + d)] 2)) (YrP V B len)) := Lib.hid (fun V a b c d hS h1 h2 h3 h4 h5 h6 h7 h8 => (cPick B len V.heap.size 6 6 (-4100) 4100 _ hlen (by omega) (by omega) (by have := hS.lt; omega) (rowLit V [1000 + a, 1300 + b, 1300 + c, 3000, 3001, 1000 + d] (-4100) 4100 (by intro v hv; simp at hv; omega) 2) (hS.alloc _)).mono (by
    rintro e V' ⟨x, hx0, hx1, rfl, hS', hg'⟩
    exact ⟨x, rfl, ⟨hx0, hx1⟩, hS', (World.grownBy_alloc V _ (some B)).trans hg'⟩))
  clear h
  go_enter Tryz.func63, Tryz.ntmps63
  go_wp2_with fail
  refine (CN.out _ 1200 HS.out (by omega) (by omega)).mono ?_
  rintro e w1 ⟨a, a0, a1, rfl, hS1, g1⟩
  have S1 := Lib.hid hS1
  have G1 := Lib.hid g1
  clear hS1 g1
  go_wp2_with fail
  refine (CN.out _ 500 S1.out (by omega) (by omega)).mono ?_
  rintro e w2 ⟨b, b0, b1, rfl, hS2, g2⟩
  have S2 := Lib.hid hS2
  have G2 := Lib.hid (G1.out.trans g2)
  clear hS2 g2
  go_wp2_with fail
  refine (CN.out _ 500 S2.out (by omega) (by omega)).mono ?_
  rintro e w3 ⟨c, c0, c1, rfl, hS3, g3⟩
  have S3 := Lib.hid hS3
  have G3 := Lib.hid (G2.out.trans g3)
  clear hS3 g3
  go_wp2_with fail
  refine (CN.out _ 1200 S3.out (by omega) (by omega)).mono ?_
  rintro e w4 ⟨d, d0, d1, rfl, hS4, g4⟩
  have CQ := Lib.hid (CP.out w4 a b c d hS4 a0 (by omega) b0 (by omega) c0 (by omega) d0 (by omega))
  have G4 := Lib.hid (G3.out.trans g4)
  clear hS4 g4
  go_wp2_with fail
  refine CQ.out.mono ?_
  rintro e w5 ⟨r, rfl, hr, hS5, g5⟩
  go_wp2_with fail
  go_ret
  exact ⟨r, rfl, hr, hS5, G4.out.trans g5⟩
def rowCG : Array Value := #[.string ⟨#[97, 115, 104]⟩, .string ⟨#[110, 111, 119, 104, 101, 114, 101]⟩, .string ⟨#[]⟩, .string ⟨#[69, 108, 121]⟩]
def tabCG (i : Nat) : ByteArray := [(⟨#[97, 115, 104]⟩ : ByteArray), ⟨#[110, 111, 119, 104, 101, 114, 101]⟩, ⟨#[]⟩, ⟨#[69, 108, 121]⟩].getD i ByteArray.empty
theorem rowCG_at (i : Nat) (h : i < 4) : rowCG[i]? = some (.string (tabCG i)) := by
  match i, h with
  | 0, _ => rfl
  | 1, _ => rfl
  | 2, _ => rfl
  | 3, _ => rfl
theorem tabCG_size (i : Nat) (h : i < 4) : (tabCG i).size ≤ 8 := by
  match i, h with
  | 0, _ => decide
  | 1, _ => decide
  | 2, _ => decide
  | 3, _ => decide
set_option maxHeartbeats 2000000 in
set_option maxRecDepth 100000 in
theorem cCdD (B len : Nat) (A : Option Addr) (n c : Nat) (ps : List Pl) (w V : World) (hlen : len ≤ 1048576) (hn : n ≤ 12) (h : LP w B len V A n c ps) :
    Calls Tryz.prog 107 #[.pointer (some ⟨B, 0, none⟩), .slice A n c] V (TextPost 64 V B len) := by
  have CN := Lib.hid (fun (V : World) (n : Int) (hV : Src V B len) (h1 : -1000000000 ≤ n) (h2 : n ≤ 10000000000) => cNext B len n V hlen h1 h2 hV)
  have H := Lib.hid h
  clear h
  go_enter Tryz.func107, Tryz.ntmps107
  by_cases hp : 0 < n
  · have p1 : decide ((0 : Int) < (n : Int)) = true := decide_eq_true (by omega)
    go_wp2_with fail
    refine (CN.out _ 6 H.out.src (by omega) (by omega)).mono ?_
    rintro e w2 ⟨r, hr0, hr1, rfl, hS2, g2⟩
    have H2 := Lib.hid (H.out.next hS2 g2)
    have G2 := Lib.hid g2
    clear hS2 g2 hr1
    by_cases hr : 0 < r
    · have p2 : decide ((0 : Int) < r) = true := decide_eq_true hr
      go_wp2_with fail
      refine (CN.out _ (n : Int) H2.out.src (by omega) (by omega)).mono ?_
      rintro e w3 ⟨q0, hq0, hq1, rfl, hS3, g3⟩
      obtain ⟨q, rfl⟩ : ∃ q : Nat, q0 = q := ⟨q0.toNat, by omega⟩
      have hq : q < n := by omega
      have e1 : (0 : Int) ≤ (q : Int) := by omega
      have e2 : (q : Int) < (n : Int) := by omega
      have H3 := H2.out.next hS3 g3
      have hnl := H3.n_le
      obtain ⟨p, hpp⟩ : ∃ p, ps[q]? = some p := ⟨ps[q]'(by omega), List.getElem?_eq_getElem _⟩
      obtain ⟨b, o, rfl, hbl, A1, d1, c0, c1, c2, c3, c4, hnm, hd1⟩ := H3.pl.row hpp
      have hsz := (H3.sm p (List.mem_of_getElem? hpp)).1.1
      have HS3 := Lib.hid hS3
      have HG3 := Lib.hid (G2.out.trans g3)
      clear g3 hS3 hq1 c1 c2 c3 c4 hpp hnm hd1 H3 hnl
      go_wp2_with fail
      go_ret
      exact ⟨_, hsz, rfl, HS3.out, HG3.out⟩
    · have p2 : decide ((0 : Int) < r) = false := decide_eq_false hr
      have HS3 := Lib.hid (H2.out.src.alloc (.cells rowCG 9))
      have T3 := Lib.hid (TabAt.new w2 9 rowCG)
      have HG3 := Lib.hid (G2.out.trans (World.grownBy_alloc w2 (.cells rowCG 9) (some B)))
      go_wp2_with fail
      refine (CN.out _ 4 HS3.out (by omega) (by omega)).mono ?_
      rintro e w4 ⟨q0, hq0, hq1, rfl, hS4, g4⟩
      obtain ⟨q, rfl⟩ : ∃ q : Nat, q0 = q := ⟨q0.toNat, by omega⟩
      have hq : q < 4 := by omega
      have e1 : (0 : Int) ≤ (q : Int) := by omega
      have e2 : (q : Int) < 4 := by omega
      have T4 := tab_src T3.out HS3.out (by decide) g4
      have k1 : w4.cell? ⟨w2.heap.size, q, none⟩ = some (.string (tabCG q)) := (T4.cell q).trans (rowCG_at q hq)
      have hz := tabCG_size q hq
      have HS4 := Lib.hid hS4
      have HG4 := Lib.hid (HG3.out.trans g4)
      clear g4 hS4 HS3 HG3 hq1 T4 T3
      go_wp2_with fail
      go_ret
      exact ⟨_, by omega, rfl, HS4.out, HG4.out⟩
  · have p1 : decide ((0 : Int) < (n : Int)) = false := decide_eq_false (by omega)
    have HS3 := Lib.hid (H.out.src.alloc (.cells rowCG 9))
    have T3 := Lib.hid (TabAt.new V 9 rowCG)
    have HG3 := Lib.hid (World.grownBy_alloc V (.cells rowCG 9) (some B))
    go_wp2_with fail
    refine (CN.out _ 4 HS3.out (by omega) (by omega)).mono ?_
    rintro e w4 ⟨q0, hq0, hq1, rfl, hS4, g4⟩
    obtain ⟨q, rfl⟩ : ∃ q : Nat, q0 = q := ⟨q0.toNat, by omega⟩
    have hq : q < 4 := by omega
    have e1 : (0 : Int) ≤ (q : Int) := by omega
    have e2 : (q : Int) < 4 := by omega
    have T4 := tab_src T3.out HS3.out (by decide) g4
    have k1 : w4.cell? ⟨V.heap.size, q, none⟩ = some (.string (tabCG q)) := (T4.cell q).trans (rowCG_at q hq)
    have hz := tabCG_size q hq
    have HS4 := Lib.hid hS4
    have HG4 := Lib.hid (HG3.out.trans g4)
    clear g4 hS4 HS3 HG3 hq1 T4 T3
    go_wp2_with fail
    go_ret
    exact ⟨_, by omega, rfl, HS4.out, HG4.out⟩
/-- A drawn register, for the law. -/
def DPl (w : World) (A : Option Addr) (n c : Nat) (ps : List Pl) (w' : World) : Prop := n ≤ 12 ∧ (∀ p ∈ ps, SmQ p) ∧ (∃ es, plsOf es = ps ∧ OwnP w' w.heap.size w'.heap.size A n c es) ∧ Below w.heap.size w w'
theorem below_srcG {w w1 V : World} {B : Nat} (hb : Below w.heap.size w w1) (hB : w.heap.size ≤ B) (hg : w1.grownBy V (some B)) : Below w.heap.size w V :=
  hb.grown hg hb.size (fun k e => by injection e; omega)
theorem LP.dpl {w w1 V : World} {B len n c : Nat} {A : Option Addr} {ps : List Pl} (h : LP w1 B len V A n c ps) (hn : n ≤ 12) (hb : Below w.heap.size w w1) (hB : w.heap.size ≤ B) : DPl w A n c ps V := by
  obtain ⟨es, he, ho⟩ := h.own
  exact ⟨hn, h.sm, ⟨es, he, ho.down hb.size⟩, below_srcG hb hB h.grown⟩
def DPI (w : World) (e : Ending) (w' : World) : Prop := ∃ (A : Option Addr) (n c : Nat) (ps : List Pl) (y : Int), e = .returned (.tuple #[.slice A n c, .int .i64 y]) ∧ (-4100 ≤ y ∧ y ≤ 4100) ∧ DPl w A n c ps w'
def DPF (w : World) (e : Ending) (w' : World) : Prop := ∃ (A : Option Addr) (n c : Nat) (ps : List Pl) (t : ByteArray), e = .returned (.tuple #[.slice A n c, .string t]) ∧ t.size ≤ 64 ∧ DPl w A n c ps w'
set_option maxHeartbeats 1000000 in
set_option maxRecDepth 100000 in
theorem cDrawPI (A : Option Addr) (len cap : Nat) (w : World) (hlen : len ≤ 1048576) (h : CodeIn w A len) :
    Calls Tryz.prog 16 #[.slice A len cap] w (DPI w) := by
  have C0 := Lib.hid (cFrom A len cap w hlen h)
  obtain ⟨B, hB⟩ : ∃ B, B = w.heap.size := ⟨_, rfl⟩
  have HB := Lib.hid hB
  rw [← hB] at C0
  clear h hB
  go_enter Tryz.func16, Tryz.ntmps16
  go_wp2_with fail
  refine C0.out.mono ?_
  rintro e w1 ⟨rfl, hS1, hb1⟩
  have HB1 : Hid (Below w.heap.size w w1) := Lib.hid (by rw [← HB.out]; exact hb1)
  have C1 := Lib.hid (cGlD B len w1 hlen hS1)
  clear hS1 hb1 C0
  go_wp2_with fail
  refine C1.out.mono ?_
  rintro e w2 ⟨A2, n, c, ps, rfl, hn, hL⟩
  have L2 := Lib.hid hL
  have C2 := Lib.hid (cYrD B len w2 hlen hL.src)
  clear hL C1
  go_wp2_with fail
  refine C2.out.mono ?_
  rintro e w3 ⟨r, rfl, hr, hS3, g3⟩
  have L3 := Lib.hid (L2.out.next hS3 g3)
  clear hS3 g3 L2 C2
  go_wp2_with fail
  go_ret2
  exact ⟨A2, n, c, ps, r, rfl, hr, L3.out.dpl hn HB1.out (Nat.le_of_eq HB.out.symm)⟩
set_option maxHeartbeats 1000000 in
set_option maxRecDepth 100000 in
theorem cDrawPF (A : Option Addr) (len cap : Nat) (w : World) (hlen : len ≤ 1048576) (h : CodeIn w A len) :
    Calls Tryz.prog 38 #[.slice A len cap] w (DPF w) := by
  have C0 := Lib.hid (cFrom A len cap w hlen h)
  obtain ⟨B, hB⟩ : ∃ B, B = w.heap.size := ⟨_, rfl⟩
  have HB := Lib.hid hB
  rw [← hB] at C0
  clear h hB
  go_enter Tryz.func38, Tryz.ntmps38
  go_wp2_with fail
  refine C0.out.mono ?_
  rintro e w1 ⟨rfl, hS1, hb1⟩
  have HB1 : Hid (Below w.heap.size w w1) := Lib.hid (by rw [← HB.out]; exact hb1)
  have C1 := Lib.hid (cGlD B len w1 hlen hS1)
  clear hS1 hb1 C0
  go_wp2_with fail
  refine C1.out.mono ?_
  rintro e w2 ⟨A2, n, c, ps, rfl, hn, hL⟩
  have L2 := Lib.hid hL
  have C2 := Lib.hid (cCdD B len A2 n c ps w1 w2 hlen hn hL)
  clear hL C1
  go_wp2_with fail
  refine C2.out.mono ?_
  rintro e w3 ⟨t, ht, rfl, hS3, g3⟩
  have L3 := Lib.hid (L2.out.next hS3 g3)
  clear hS3 g3 L2 C2
  go_wp2_with fail
  go_ret2
  exact ⟨A2, n, c, ps, t, rfl, ht, L3.out.dpl hn HB1.out (Nat.le_of_eq HB.out.symm)⟩
end Go.Proofs.YtglmibmjbignbaaGreatDoor
