/-
  The contracts of spec.l09Tongue and of what the laws draw of chapter 9: names and a year, names, a language and a year, names and a language.
-/
import Derived.Test.YthlilfdndpnbkaaGreatDoorNyD
import Derived.Test.YthlilfdndpnbkaaGreatDoorMu16
namespace Go.Proofs.YthlilfdndpnbkaaGreatDoor
set_option linter.unusedVariables false
open Go.RowKit

def tabTg (i : Nat) : ByteArray := [(⟨#[101, 110]⟩ : ByteArray), ⟨#[100, 101]⟩, ⟨#[120, 120]⟩, ⟨#[101]⟩].getD i ByteArray.empty
theorem tabTg_size (i : Nat) (h : i < 4) : (tabTg i).size ≤ 8 := by
  match i, h with
  | 0, _ => decide
  | 1, _ => decide
  | 2, _ => decide
  | 3, _ => decide
theorem tabTg_at (V : World) (i : Nat) (h : i < 4) : (V.alloc (.cells #[.string ⟨#[101, 110]⟩, .string ⟨#[100, 101]⟩, .string ⟨#[120, 120]⟩, .string ⟨#[101]⟩] 9)).cell? ⟨V.heap.size, i, none⟩ = some (.string (tabTg i)) := by
  rw [World.cell?_alloc_at _ _ _ _ rfl]
  match i, h with
  | 0, _ => rfl
  | 1, _ => rfl
  | 2, _ => rfl
  | 3, _ => rfl
/-- A drawn language. -/
def TgPost (w : World) (B len : Nat) (e : Ending) (w' : World) : Prop := ∃ t : ByteArray, e = .returned (.string t) ∧ t.size ≤ 8 ∧ Src w' B len ∧ w.grownBy w' (some B)
theorem nm_keepR {w V : World} {R B n c : Nat} {A : Option Addr} {xs : List Nm} {t : TypeId} (h : w.ownsRow R t 5 (.slice A n c) n (nmV xs)) (hg : w.grownBy V (some B)) (hB : B < R) : NmAt V w.heap.size A n xs := by
  have h2 := own_nm (own_srcL h hg hB)
  have h1 := own_nm h
  refine ⟨h2.1, fun hp => ?_⟩
  obtain ⟨b, o, e1, e2, _⟩ := h1.2 hp
  obtain ⟨b', o', e1', _, e3⟩ := h2.2 hp
  obtain ⟨rfl, rfl⟩ : b = b' ∧ o = o' := by
    rw [e1] at e1'; injection e1' with e; injection e with e1 e2; exact ⟨e1, e2⟩
  exact ⟨b, o, e1, e2, e3⟩

set_option maxHeartbeats 4000000 in
set_option maxRecDepth 100000 in
theorem cTgD (B len : Nat) (A : Option Addr) (n c : Nat) (xs : List Nm) (w : World) (hlen : len ≤ 1048576) (hn : n ≤ 13) (hsm : ∀ x ∈ xs, Small x) (hkeep : ∀ V, Src V B len → w.grownBy V (some B) → NmAt V w.heap.size A n xs) (h : Src w B len) :
    Calls Tryz.prog 67 #[.pointer (some ⟨B, 0, none⟩), .slice A n c] w (TgPost w B len) := by
  have CN := Lib.hid (fun (V : World) (n : Int) (hV : Src V B len) (h1 : -1000000000 ≤ n) (h2 : n ≤ 10000000000) => cNext B len n V hlen h1 h2 hV)
  have HS := Lib.hid h
  have HK := Lib.hid hkeep
  have HSM := Lib.hid hsm
  clear h hkeep hsm
  go_enter Tryz.func67, Tryz.ntmps67
  by_cases hp : 0 < n
  · have p1 : decide ((0 : Int) < (n : Int)) = true := decide_eq_true (by omega)
    go_wp2_with fail
    refine (CN.out _ 4 HS.out (by omega) (by omega)).mono ?_
    rintro e w2 ⟨r, hr0, hr1, rfl, hS2, g2⟩
    have HS2 := Lib.hid hS2
    have HG2 := Lib.hid g2
    clear hS2 g2 hr1
    by_cases hr : 0 < r
    · have p2 : decide ((0 : Int) < r) = true := decide_eq_true hr
      go_wp2_with fail
      refine (CN.out _ (n : Int) HS2.out (by omega) (by omega)).mono ?_
      rintro e w3 ⟨q0, hq0, hq1, rfl, hS3, g3⟩
      obtain ⟨q, rfl⟩ : ∃ q : Nat, q0 = q := ⟨q0.toNat, by omega⟩
      have hq : q < n := by omega
      have e1 : (0 : Int) ≤ (q : Int) := by omega
      have e2 : (q : Int) < (n : Int) := by omega
      have hG3 := HG2.out.trans g3
      obtain ⟨g, o, x, rfl, hx, hsx, c0, c1, c2, c3, c4⟩ := nm_at_small ((HK.out _ hS3 hG3).more hG3.size) HSM.out hq
      have k1 : w3.cell? ⟨g, o + q * 5 + 1, none⟩ = some (.string x.l) := c1
      have HS3 := Lib.hid hS3
      have HG3 := Lib.hid hG3
      clear g3 hS3 hG3 hq1 c0 c1 c2 c3 c4 hx
      go_wp2_with fail
      go_ret
      exact ⟨_, rfl, hsx.2.1, HS3.out, HG3.out⟩
    · have p2 : decide ((0 : Int) < r) = false := decide_eq_false hr
      have HS3 := Lib.hid (HS2.out.alloc (.cells #[.string ⟨#[101, 110]⟩, .string ⟨#[100, 101]⟩, .string ⟨#[120, 120]⟩, .string ⟨#[101]⟩] 9))
      have HG3 := Lib.hid (HG2.out.trans (World.grownBy_alloc w2 (.cells #[.string ⟨#[101, 110]⟩, .string ⟨#[100, 101]⟩, .string ⟨#[120, 120]⟩, .string ⟨#[101]⟩] 9) (some B)))
      go_wp2_with fail
      refine (CN.out _ 4 HS3.out (by omega) (by omega)).mono ?_
      rintro e w4 ⟨q0, hq0, hq1, rfl, hS4, g4⟩
      obtain ⟨q, rfl⟩ : ∃ q : Nat, q0 = q := ⟨q0.toNat, by omega⟩
      have hq : q < 4 := by omega
      have e1 : (0 : Int) ≤ (q : Int) := by omega
      have e2 : (q : Int) < 4 := by omega
      have hne : w2.heap.size ≠ B := by have := HS2.out.lt; omega
      have k1 : w4.cell? ⟨w2.heap.size, q, none⟩ = some (.string (tabTg q)) := g4.cell (tabTg_at w2 q hq) (fun e => hne (by injection e))
      have HS4 := Lib.hid hS4
      have HG4 := Lib.hid (HG3.out.trans g4)
      clear g4 hS4 HS3 HG3 hq1
      go_wp2_with fail
      go_ret
      exact ⟨_, rfl, tabTg_size q hq, HS4.out, HG4.out⟩
  · have p1 : decide ((0 : Int) < (n : Int)) = false := decide_eq_false (by omega)
    have HS3 := Lib.hid (HS.out.alloc (.cells #[.string ⟨#[101, 110]⟩, .string ⟨#[100, 101]⟩, .string ⟨#[120, 120]⟩, .string ⟨#[101]⟩] 9))
    go_wp2_with fail
    refine (CN.out _ 4 HS3.out (by omega) (by omega)).mono ?_
    rintro e w4 ⟨q0, hq0, hq1, rfl, hS4, g4⟩
    obtain ⟨q, rfl⟩ : ∃ q : Nat, q0 = q := ⟨q0.toNat, by omega⟩
    have hq : q < 4 := by omega
    have e1 : (0 : Int) ≤ (q : Int) := by omega
    have e2 : (q : Int) < 4 := by omega
    have hne : w.heap.size ≠ B := by have := HS.out.lt; omega
    have k1 : w4.cell? ⟨w.heap.size, q, none⟩ = some (.string (tabTg q)) := g4.cell (tabTg_at w q hq) (fun e => hne (by injection e))
    have HS4 := Lib.hid hS4
    have HG4 := Lib.hid ((World.grownBy_alloc w (.cells #[.string ⟨#[101, 110]⟩, .string ⟨#[100, 101]⟩, .string ⟨#[120, 120]⟩, .string ⟨#[101]⟩] 9) (some B)).trans g4)
    clear g4 hS4 HS3 hq1
    go_wp2_with fail
    go_ret
    exact ⟨_, rfl, tabTg_size q hq, HS4.out, HG4.out⟩

/-- The source, and a list of names behind it. -/
structure RN (w : World) (B len : Nat) (V : World) (R : Nat) (A : Option Addr) (n c : Nat) (xs : List Nm) : Prop where
  own : V.ownsRow R 27 5 (.slice A n c) n (nmV xs)
  lt : B < R
  src : Src V B len
  below : Below w.heap.size w V
  lo : w.heap.size ≤ B
  small : ∀ x ∈ xs, Small x
  le : n ≤ 13
theorem RN.next {w V V' : World} {B len R n c : Nat} {A : Option Addr} {xs : List Nm} (h : RN w B len V R A n c xs) (hS : Src V' B len) (hg : V.grownBy V' (some B)) : RN w B len V' R A n c xs :=
  ⟨own_srcL h.own hg h.lt, h.lt, hS, below_srcZ h.below h.lo hg, h.lo, h.small, h.le⟩
theorem RN.row {w V : World} {B len R n c : Nat} {A : Option Addr} {xs : List Nm} (h : RN w B len V R A n c xs) : V.ownsRow w.heap.size 27 5 (.slice A n c) n (nmV xs) := rowBase h.own (by have := h.lt; have := h.lo; omega)
/-- A drawn list, for the law. -/
def DL (w : World) (A : Option Addr) (n c : Nat) (xs : List Nm) (w' : World) : Prop := n ≤ 13 ∧ (∀ x ∈ xs, Small x) ∧ w'.ownsRow w.heap.size 27 5 (.slice A n c) n (nmV xs) ∧ Below w.heap.size w w'
def DL0 (w : World) (e : Ending) (w' : World) : Prop := ∃ (A : Option Addr) (n c : Nat) (xs : List Nm), e = .returned (.slice A n c) ∧ DL w A n c xs w'
def DL1 (w : World) (e : Ending) (w' : World) : Prop := ∃ (A : Option Addr) (n c : Nat) (xs : List Nm) (y : Int), e = .returned (.tuple #[.slice A n c, .int .i64 y]) ∧ (-4100 ≤ y ∧ y ≤ 4100) ∧ DL w A n c xs w'
def DL2 (w : World) (e : Ending) (w' : World) : Prop := ∃ (A : Option Addr) (n c : Nat) (xs : List Nm) (t : ByteArray) (y : Int), e = .returned (.tuple #[.slice A n c, .string t, .int .i64 y]) ∧ t.size ≤ 8 ∧ (-4100 ≤ y ∧ y ≤ 4100) ∧ DL w A n c xs w'
def DLY (w : World) (e : Ending) (w' : World) : Prop := ∃ (A : Option Addr) (n c : Nat) (xs : List Nm) (t : ByteArray), e = .returned (.tuple #[.slice A n c, .string t]) ∧ t.size ≤ 8 ∧ DL w A n c xs w'
theorem RN.dl {w V : World} {B len R n c : Nat} {A : Option Addr} {xs : List Nm} (h : RN w B len V R A n c xs) : DL w A n c xs V := ⟨h.le, h.small, h.row, h.below⟩

set_option maxHeartbeats 1000000 in
set_option maxRecDepth 100000 in
theorem cDrawUsed (A : Option Addr) (len cap : Nat) (w : World) (hlen : len ≤ 1048576) (h : CodeIn w A len) :
    Calls Tryz.prog 17 #[.slice A len cap] w (DL1 w) := by
  have C0 := Lib.hid (cFrom A len cap w hlen h)
  obtain ⟨B, hB⟩ : ∃ B, B = w.heap.size := ⟨_, rfl⟩
  have HB := Lib.hid hB
  rw [← hB] at C0
  clear h hB
  go_enter Tryz.func17, Tryz.ntmps17
  go_wp2_with fail
  refine C0.out.mono ?_
  rintro e w1 ⟨rfl, hS1, hb1⟩
  have HB1 : Hid (Below w.heap.size w w1) := Lib.hid (by rw [← HB.out]; exact hb1)
  have C1 := Lib.hid (cNlD B len w1 hlen hS1)
  clear hS1 hb1 C0
  go_wp2_with fail
  refine C1.out.mono ?_
  rintro e w2 ⟨v, n, xs, rfl, hn, hL⟩
  obtain ⟨A2, c, rfl, hnc, hN⟩ := hL.form
  have R2 : Hid (RN w B len w2 w1.heap.size A2 n c xs) := Lib.hid ⟨hL.own, hL.lt, hL.src, below_srcZ HB1.out (Nat.le_of_eq HB.out.symm) hL.grown, Nat.le_of_eq HB.out.symm, hL.small, hn⟩
  clear hL hnc hN C1
  have C2 := Lib.hid (cNyD B len A2 n c xs w2 hlen hn R2.out.small (own_nm R2.out.own) (fun V hS hg => nm_keepR R2.out.own hg R2.out.lt) R2.out.src)
  go_wp2_with fail
  refine C2.out.mono ?_
  rintro e w3 ⟨r, rfl, hr, hS3, g3⟩
  have R3 := Lib.hid (R2.out.next hS3 g3)
  clear hS3 g3 R2 C2
  go_wp2_with fail
  go_ret2
  exact ⟨A2, n, c, xs, r, rfl, hr, R3.out.dl⟩
set_option maxHeartbeats 1000000 in
set_option maxRecDepth 100000 in
theorem cDrawLangs (A : Option Addr) (len cap : Nat) (w : World) (hlen : len ≤ 1048576) (h : CodeIn w A len) :
    Calls Tryz.prog 26 #[.slice A len cap] w (DL0 w) := by
  have C0 := Lib.hid (cFrom A len cap w hlen h)
  obtain ⟨B, hB⟩ : ∃ B, B = w.heap.size := ⟨_, rfl⟩
  have HB := Lib.hid hB
  rw [← hB] at C0
  clear h hB
  go_enter Tryz.func26, Tryz.ntmps26
  go_wp2_with fail
  refine C0.out.mono ?_
  rintro e w1 ⟨rfl, hS1, hb1⟩
  have HB1 : Hid (Below w.heap.size w w1) := Lib.hid (by rw [← HB.out]; exact hb1)
  have C1 := Lib.hid (cNlD B len w1 hlen hS1)
  clear hS1 hb1 C0
  go_wp2_with fail
  refine C1.out.mono ?_
  rintro e w2 ⟨v, n, xs, rfl, hn, hL⟩
  obtain ⟨A2, c, rfl, hnc, hN⟩ := hL.form
  have R2 : Hid (RN w B len w2 w1.heap.size A2 n c xs) := Lib.hid ⟨hL.own, hL.lt, hL.src, below_srcZ HB1.out (Nat.le_of_eq HB.out.symm) hL.grown, Nat.le_of_eq HB.out.symm, hL.small, hn⟩
  clear hL hnc hN C1
  go_wp2_with fail
  go_ret
  exact ⟨A2, n, c, xs, rfl, R2.out.dl⟩
set_option maxHeartbeats 1000000 in
set_option maxRecDepth 100000 in
theorem cDrawOff (A : Option Addr) (len cap : Nat) (w : World) (hlen : len ≤ 1048576) (h : CodeIn w A len) :
    Calls Tryz.prog 20 #[.slice A len cap] w (DL2 w) := by
  have C0 := Lib.hid (cFrom A len cap w hlen h)
  have HC := Lib.hid h
  obtain ⟨B, hB⟩ : ∃ B, B = w.heap.size := ⟨_, rfl⟩
  have HB := Lib.hid hB
  rw [← hB] at C0
  clear h hB
  go_enter Tryz.func20, Tryz.ntmps20
  go_wp2_with fail
  refine C0.out.mono ?_
  rintro e w1 ⟨rfl, hS1, hb1⟩
  have hlt1 := hS1.lt
  have HB1 : Hid (Below w.heap.size w w1) := Lib.hid (by rw [← HB.out]; exact hb1)
  have S1 := Lib.hid hS1
  have C1 := Lib.hid (cDrawUsed A len cap w1 hlen (HC.out.belowZ HB1.out))
  clear hS1 hb1 C0 HC
  go_wp2_with fail
  refine C1.out.mono ?_
  rintro e w2 ⟨A2, n, c, xs, y, rfl, hy, hn, hsm, hN2, hb2⟩
  have R2 : Hid (RN w B len w2 w1.heap.size A2 n c xs) := Lib.hid ⟨hN2, hlt1, S1.out.belowZ hb2, HB1.out.trans (hb2.mono HB1.out.size), Nat.le_of_eq HB.out.symm, hsm, hn⟩
  clear hN2 hb2 C1 S1 HB1 hsm
  have C2 := Lib.hid (cTgD B len A2 n c xs w2 hlen hn R2.out.small (fun V hS hg => nm_keepR R2.out.own hg R2.out.lt) R2.out.src)
  go_wp2_with fail
  refine C2.out.mono ?_
  rintro e w3 ⟨t, rfl, ht, hS3, g3⟩
  have R3 := Lib.hid (R2.out.next hS3 g3)
  clear hS3 g3 R2 C2
  go_wp2_with fail
  go_ret3
  exact ⟨A2, n, c, xs, t, y, rfl, ht, hy, R3.out.dl⟩
set_option maxHeartbeats 1000000 in
set_option maxRecDepth 100000 in
theorem cDrawOy (A : Option Addr) (len cap : Nat) (w : World) (hlen : len ≤ 1048576) (h : CodeIn w A len) :
    Calls Tryz.prog 34 #[.slice A len cap] w (DLY w) := by
  have C0 := Lib.hid (cDrawOff A len cap w hlen h)
  clear h
  go_enter Tryz.func34, Tryz.ntmps34
  go_wp2_with fail
  refine C0.out.mono ?_
  rintro e w1 ⟨A2, n, c, xs, t, y, rfl, ht, hy, hD⟩
  have HD := Lib.hid hD
  clear hD hy
  go_wp2_with fail
  go_ret2
  exact ⟨A2, n, c, xs, t, rfl, ht, HD.out⟩
end Go.Proofs.YthlilfdndpnbkaaGreatDoor
