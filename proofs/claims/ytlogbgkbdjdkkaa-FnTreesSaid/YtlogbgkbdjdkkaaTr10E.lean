/-
  What the laws of chapter 10 draw: a tree, a tree and a class, a tree and two classes.
-/
import Derived.Test.YtlogbgkbdjdkkaaTr10D
namespace Go.Proofs.Ytlogbgkbdjdkkaa
set_option linter.unusedVariables false
open Go.RowKit

theorem Src.below10 {w w' : World} {B len : Nat} (h : Src w B len) (hb : Below w.heap.size w w') : Src w' B len := by
  obtain ⟨A, cap, at_, seed, hT, h1, h2, h3, h4, hC⟩ := h
  refine ⟨A, cap, at_, seed, (hb.block B hT.lt).trans hT, h1, h2, h3, h4, fun hp => ?_⟩
  obtain ⟨b, o, hA, hne, hlt, hc⟩ := hC hp
  refine ⟨b, o, hA, hne, Nat.lt_of_lt_of_le hlt hb.size, fun j hj => ?_⟩
  obtain ⟨z, z0, z1, z2⟩ := hc j hj
  exact ⟨z, z0, z1, (hb.cell (by exact hlt)).trans z2⟩
theorem CodeIn.below10 {w w' : World} {A : Option Addr} {len : Nat} (h : CodeIn w A len) (hb : Below w.heap.size w w') : CodeIn w' A len := fun hp => by
  obtain ⟨b, o, hA, hlt, hc⟩ := h hp
  refine ⟨b, o, hA, Nat.lt_of_lt_of_le hlt hb.size, fun j hj => ?_⟩
  obtain ⟨z, h0, h1, h2⟩ := hc j hj
  exact ⟨z, h0, h1, (hb.cell (by exact hlt)).trans h2⟩
theorem below_src10 {w w1 w2 : World} {B : Nat} (h : Below w.heap.size w w1) (hB : w.heap.size ≤ B) (hg : w1.grownBy w2 (some B)) : Below w.heap.size w w2 := h.grown hg h.size (fun k hk => by cases hk; exact hB)
theorem src_drew10 {w : World} {B len : Nat} (h : Src w B len) : Src w.drew B len := h
theorem own_drew10 {w : World} {base s n : Nat} {t : TypeId} {v : Value} {xs : List Value} (h : w.ownsRow base t s v n xs) : w.drew.ownsRow base t s v n xs := h
theorem drew_grown10 {w w' : World} {B : Nat} (h : w.drew.grownBy w' (some B)) : w.grownBy w' (some B) := ⟨h.os, h.tape, h.output, h.size, h.block⟩
/-- The source and a row behind it. -/
def RSt (w : World) (B len : Nat) (V : World) (R : Nat) (A : Option Addr) (n c : Nat) (xs : List Int) : Prop :=
  V.ownsRow R 2 1 (.slice A n c) n (intV xs) ∧ B < R ∧ Src V B len ∧ Below w.heap.size w V ∧ w.heap.size ≤ B
theorem RSt.next {w V V' : World} {B len R n c : Nat} {A : Option Addr} {xs : List Int} (h : RSt w B len V R A n c xs) (hS : Src V' B len) (hg : V.grownBy V' (some B)) : RSt w B len V' R A n c xs :=
  ⟨own_src10 h.1 hg h.2.1, h.2.1, hS, below_src10 h.2.2.2.1 h.2.2.2.2 hg, h.2.2.2.2⟩
theorem RSt.below {w V V' : World} {B len R n c : Nat} {A : Option Addr} {xs : List Int} (h : RSt w B len V R A n c xs) (hb : Below V.heap.size V V') : RSt w B len V' R A n c xs :=
  ⟨((Sp.row h.1).next hb).here, h.2.1, h.2.2.1.below10 hb, h.2.2.2.1.trans (hb.mono h.2.2.2.1.size), h.2.2.2.2⟩
theorem RSt.row {w V : World} {B len R n c : Nat} {A : Option Addr} {xs : List Int} (h : RSt w B len V R A n c xs) : V.ownsRow w.heap.size 2 1 (.slice A n c) n (intV xs) := rowBase h.1 (by have := h.2.1; have := h.2.2.2.2; omega)
theorem RSt.num {w V : World} {B len R n c : Nat} {A : Option Addr} {xs : List Int} (h : RSt w B len V R A n c xs) : NumAt V V.heap.size A n xs := own_num h.1
def D0 (w : World) (e : Ending) (w' : World) : Prop := ∃ (A : Option Addr) (n c : Nat) (xs : List Int), e = .returned (.slice A n c) ∧ n ≤ 21 ∧ w'.ownsRow w.heap.size 2 1 (.slice A n c) n (intV xs) ∧ Below w.heap.size w w'
def D1 (w : World) (e : Ending) (w' : World) : Prop := ∃ (A : Option Addr) (n c : Nat) (xs : List Int) (a : Int), e = .returned (.tuple #[.slice A n c, .int .i64 a]) ∧ n ≤ 21 ∧ w'.ownsRow w.heap.size 2 1 (.slice A n c) n (intV xs) ∧ Below w.heap.size w w'
def D2 (w : World) (e : Ending) (w' : World) : Prop := ∃ (A : Option Addr) (n c : Nat) (xs : List Int) (a b : Int), e = .returned (.tuple #[.slice A n c, .int .i64 a, .int .i64 b]) ∧ n ≤ 21 ∧ w'.ownsRow w.heap.size 2 1 (.slice A n c) n (intV xs) ∧ Below w.heap.size w w'
theorem RSt.d2 {w V : World} {B len R n c : Nat} {A : Option Addr} {xs : List Int} (h : RSt w B len V R A n c xs) (hn : n ≤ 21) (a b : Int) : D2 w (.returned (.tuple #[.slice A n c, .int .i64 a, .int .i64 b])) V := ⟨A, n, c, xs, a, b, rfl, hn, h.row, h.2.2.2.1⟩

set_option maxHeartbeats 1000000 in
set_option maxRecDepth 100000 in
theorem cDrawKinds (A : Option Addr) (len cap : Nat) (w : World) (hlen : len ≤ 1048576) (h : CodeIn w A len) :
    Calls Try.prog 46 #[.slice A len cap] w (D1 w) := by
  have C0 := Lib.hid (cFrom A len cap w hlen h)
  obtain ⟨B, hB⟩ : ∃ B, B = w.heap.size := ⟨_, rfl⟩
  have HB := Lib.hid hB
  rw [← hB] at C0
  clear h hB
  go_enter Try.func46, Try.ntmps46
  go_wp2_with fail
  refine C0.out.mono ?_
  rintro e w1 ⟨rfl, hS1, hb1⟩
  have hlt1 := hS1.lt
  have HB1 : Hid (Below w.heap.size w w1) := Lib.hid (by rw [← HB.out]; exact hb1)
  have C1 := Lib.hid (cDraw10 B len w1 hlen hS1)
  clear hS1 hb1 C0
  go_wp2_with fail
  refine C1.out.mono ?_
  rintro e w2 ⟨A2, n, c, xs, rfl, hO2, hn, hS2, g2⟩
  have R2 : Hid (RSt w B len w2 w1.heap.size A2 n c xs) := Lib.hid ⟨hO2, hlt1, hS2, below_src10 HB1.out (Nat.le_of_eq HB.out.symm) g2, Nat.le_of_eq HB.out.symm⟩
  clear hS2 g2 hO2 C1
  have C2 := Lib.hid (cClass10 B len A2 n c w2 hlen (by omega) R2.out.2.2.1)
  go_wp2_with fail
  refine C2.out.mono ?_
  rintro e w3 ⟨r, rfl, hS3, g3⟩
  have R3 := Lib.hid (R2.out.next hS3 g3)
  clear hS3 g3 R2 C2
  go_wp2_with fail
  go_ret2
  exact ⟨A2, n, c, xs, r, rfl, hn, R3.out.row, R3.out.2.2.2.1⟩
set_option maxHeartbeats 1000000 in
theorem cDrawSubs (A : Option Addr) (len cap : Nat) (w : World) (hlen : len ≤ 1048576) (h : CodeIn w A len) :
    Calls Try.prog 23 #[.slice A len cap] w (D1 w) := by
  have C0 := Lib.hid (cDrawKinds A len cap w hlen h)
  clear h
  go_enter Try.func23, Try.ntmps23
  go_wp2_with fail
  refine C0.out.mono ?_
  rintro e w1 ⟨A2, n, c, xs, a, rfl, hn, hN, hb⟩
  have HN := Lib.hid hN
  have HB := Lib.hid hb
  clear hN hb
  go_wp2_with fail
  go_ret2
  exact ⟨A2, n, c, xs, a, rfl, hn, HN.out, HB.out⟩
set_option maxHeartbeats 1000000 in
theorem cDrawAdd (A : Option Addr) (len cap : Nat) (w : World) (hlen : len ≤ 1048576) (h : CodeIn w A len) :
    Calls Try.prog 32 #[.slice A len cap] w (D1 w) := by
  have C0 := Lib.hid (cDrawKinds A len cap w hlen h)
  clear h
  go_enter Try.func32, Try.ntmps32
  go_wp2_with fail
  refine C0.out.mono ?_
  rintro e w1 ⟨A2, n, c, xs, a, rfl, hn, hN, hb⟩
  have HN := Lib.hid hN
  have HB := Lib.hid hb
  clear hN hb
  go_wp2_with fail
  go_ret2
  exact ⟨A2, n, c, xs, a, rfl, hn, HN.out, HB.out⟩
set_option maxHeartbeats 1000000 in
set_option maxRecDepth 100000 in
theorem cDrawLeaves (A : Option Addr) (len cap : Nat) (w : World) (hlen : len ≤ 1048576) (h : CodeIn w A len) :
    Calls Try.prog 38 #[.slice A len cap] w (D0 w) := by
  have C0 := Lib.hid (cFrom A len cap w hlen h)
  obtain ⟨B, hB⟩ : ∃ B, B = w.heap.size := ⟨_, rfl⟩
  have HB := Lib.hid hB
  rw [← hB] at C0
  clear h hB
  go_enter Try.func38, Try.ntmps38
  go_wp2_with fail
  refine C0.out.mono ?_
  rintro e w1 ⟨rfl, hS1, hb1⟩
  have hlt1 := hS1.lt
  have HB1 : Hid (Below w.heap.size w w1) := Lib.hid (by rw [← HB.out]; exact hb1)
  have C1 := Lib.hid (cDraw10 B len w1 hlen hS1)
  clear hS1 hb1 C0
  go_wp2_with fail
  refine C1.out.mono ?_
  rintro e w2 ⟨A2, n, c, xs, rfl, hO2, hn, hS2, g2⟩
  have R2 : Hid (RSt w B len w2 w1.heap.size A2 n c xs) := Lib.hid ⟨hO2, hlt1, hS2, below_src10 HB1.out (Nat.le_of_eq HB.out.symm) g2, Nat.le_of_eq HB.out.symm⟩
  clear hS2 g2 hO2 C1
  go_wp2_with fail
  go_ret
  exact ⟨A2, n, c, xs, rfl, hn, R2.out.row, R2.out.2.2.2.1⟩
set_option maxHeartbeats 1000000 in
set_option maxRecDepth 100000 in
theorem cDrawCommon (A : Option Addr) (len cap : Nat) (w : World) (hlen : len ≤ 1048576) (h : CodeIn w A len) :
    Calls Try.prog 15 #[.slice A len cap] w (D2 w) := by
  have C0 := Lib.hid (cFrom A len cap w hlen h)
  have HC := Lib.hid h
  obtain ⟨B, hB⟩ : ∃ B, B = w.heap.size := ⟨_, rfl⟩
  have HB := Lib.hid hB
  rw [← hB] at C0
  clear h hB
  go_enter Try.func15, Try.ntmps15
  go_wp2_with fail
  refine C0.out.mono ?_
  rintro e w1 ⟨rfl, hS1, hb1⟩
  have hlt1 := hS1.lt
  have HB1 : Hid (Below w.heap.size w w1) := Lib.hid (by rw [← HB.out]; exact hb1)
  have S1 := Lib.hid hS1
  have C1 := Lib.hid (cDrawKinds A len cap w1 hlen (HC.out.below10 HB1.out))
  clear hS1 hb1 C0 HC
  go_wp2_with fail
  refine C1.out.mono ?_
  rintro e w2 ⟨A2, n, c, xs, a, rfl, hn, hN2, hb2⟩
  have R2 : Hid (RSt w B len w2 w1.heap.size A2 n c xs) := Lib.hid ⟨hN2, hlt1, S1.out.below10 hb2, HB1.out.trans (hb2.mono HB1.out.size), Nat.le_of_eq HB.out.symm⟩
  clear hN2 hb2 C1 S1 HB1
  have C2 := Lib.hid (cClass10 B len A2 n c w2 hlen (by omega) R2.out.2.2.1)
  go_wp2_with fail
  refine C2.out.mono ?_
  rintro e w3 ⟨r, rfl, hS3, g3⟩
  have R3 := Lib.hid (R2.out.next hS3 g3)
  clear hS3 g3 R2 C2
  go_wp2_with fail
  go_ret3
  exact R3.out.d2 hn a r
set_option maxHeartbeats 1000000 in
set_option maxRecDepth 100000 in
theorem cDrawMove (A : Option Addr) (len cap : Nat) (w : World) (hlen : len ≤ 1048576) (h : CodeIn w A len) :
    Calls Try.prog 35 #[.slice A len cap] w (D2 w) := by
  have C0 := Lib.hid (cDrawCommon A len cap w hlen h)
  clear h
  go_enter Try.func35, Try.ntmps35
  go_wp2_with fail
  refine C0.out.mono ?_
  rintro e w1 ⟨A2, n, c, xs, a, b, rfl, hn, hN, hb⟩
  have HN := Lib.hid hN
  have HB := Lib.hid hb
  clear hN hb
  go_wp2_with fail
  go_ret3
  exact ⟨A2, n, c, xs, a, b, rfl, hn, HN.out, HB.out⟩

set_option maxHeartbeats 4000000 in
set_option maxRecDepth 100000 in
theorem cDrawIs (A : Option Addr) (len cap : Nat) (w : World) (hlen : len ≤ 1048576) (h : CodeIn w A len) :
    Calls Try.prog 20 #[.slice A len cap] w (D2 w) := by
  have C0 := Lib.hid (cFrom A len cap w hlen h)
  have CN := Lib.hid (fun (B : Nat) (V : World) (n : Int) (hV : Src V B len) (h1 : -1000000000 ≤ n) (h2 : n ≤ 10000000000) => cNext B len n V hlen h1 h2 hV)
  obtain ⟨B, hB⟩ : ∃ B, B = w.heap.size := ⟨_, rfl⟩
  have HB := Lib.hid hB
  rw [← hB] at C0
  clear h hB
  go_enter Try.func20, Try.ntmps20
  go_wp2_with fail
  refine C0.out.mono ?_
  rintro e w1 ⟨rfl, hS1, hb1⟩
  have hlt1 := hS1.lt
  have HB1 : Hid (Below w.heap.size w w1) := Lib.hid (by rw [← HB.out]; exact hb1)
  have C1 := Lib.hid (cDraw10 B len w1 hlen hS1)
  clear hS1 hb1 C0
  go_wp2_with fail
  refine C1.out.mono ?_
  rintro e w2 ⟨A2, n, c, xs, rfl, hO2, hn, hS2, g2⟩
  have R2 : Hid (RSt w B len w2 w1.heap.size A2 n c xs) := Lib.hid ⟨hO2, hlt1, hS2, below_src10 HB1.out (Nat.le_of_eq HB.out.symm) g2, Nat.le_of_eq HB.out.symm⟩
  clear hS2 g2 hO2 C1
  have C2 := Lib.hid (cClass10 B len A2 n c w2 hlen (by omega) R2.out.2.2.1)
  go_wp2_with fail
  refine C2.out.mono ?_
  rintro e w3 ⟨a, rfl, hS3, g3⟩
  have R3 := Lib.hid (R2.out.next hS3 g3)
  clear hS3 g3 R2 C2
  have HL : Hid (n = xs.length) := Lib.hid R3.out.num.1
  have CLS : Hid (∀ (V : World), RSt w B len V w1.heap.size A2 n c xs → Calls Try.prog 47 #[.pointer (some ⟨B, 0, none⟩), .slice A2 n c] V (ClsPost V B len)) := Lib.hid (fun V hV => cClass10 B len A2 n c V hlen (by omega) hV.2.2.1)
  have FN : Hid (∀ (V V' : World) (r : Int), RSt w B len V w1.heap.size A2 n c xs → Src V' B len → V.grownBy V' (some B) → D2 w (.returned (.tuple #[.slice A2 n c, .int .i64 a, .int .i64 r])) V') := Lib.hid (fun V V' r hV hS hg => (hV.next hS hg).d2 hn a r)
  by_cases hp : 0 < n
  · have p1 : decide ((0 : Int) < (n : Int)) = true := decide_eq_true (by omega)
    have CI : Hid (∀ (W : World), Calls Try.prog 55 #[.int .i64 a, .int .i64 0, .int .i64 ((n : Int) - 1)] W fun e w' => e = .returned (.bool (inB xs a)) ∧ W = w') := Lib.hid (fun W => by have := cIn_any a 0 ((n : Int) - 1) W; rwa [inB_dec HL.out] at this)
    cases h1 : inB xs a
    · rw [h1] at CI
      go_wp2_with (first
        | (go_at_call 55; refine (CI.out _).mono ?_; rintro e w' ⟨rfl, rfl⟩)
        | (go_at_call 47; refine (CLS.out _ R3.out).mono ?_; rintro e w4 ⟨r, rfl, hS4, g4⟩; have FX := Lib.hid (FN.out _ _ r R3.out hS4 g4); clear hS4 g4))
      go_ret3
      exact FX.out
    · rw [h1] at CI
      have CT := Lib.hid (cTree_spec A2 n c w3.heap.size xs w3 (by unfold maxLen; omega) R3.out.num)
      cases h2 : treeB xs
      · rw [h2] at CT
        clear h1 h2
        go_wp2_with (first
          | (go_at_call 55; refine (CI.out _).mono ?_; rintro e w' ⟨rfl, rfl⟩)
          | (go_at_call 30; refine CT.out.mono ?_; rintro e w' ⟨rfl, m, rfl⟩; have R4 := Lib.hid (R3.out.below (below_drA (Below.refl _ _) m)))
          | (go_at_call 47; refine (CLS.out _ R4.out).mono ?_; rintro e w4 ⟨r, rfl, hS4, g4⟩; have FX := Lib.hid (FN.out _ _ r R4.out hS4 g4); clear hS4 g4))
        go_ret3
        exact FX.out
      · rw [h2] at CT
        have hT := tree_of h2
        obtain ⟨k, hk0, hk⟩ : ∃ k : Nat, a = k ∧ k < xs.length := by
          unfold inB at h1
          simp only [Bool.and_eq_true, decide_eq_true_eq] at h1
          exact ⟨a.toNat, by omega, by omega⟩
        subst hk0
        have CK : Hid (∀ (V : World), RSt w B len V w1.heap.size A2 n c xs → Calls Try.prog 53 #[.slice A2 n c, .int .i64 (k : Int)] V (OutR (upF xs (k : Int)) V)) := Lib.hid (fun V hV => cKinds_spec A2 n c V.heap.size xs k V hT hk (Nat.le_refl _) hV.num)
        have hul := upF_len hT k hk
        have hle := hT.le
        obtain ⟨ks, hks⟩ : ∃ ks, ks = upF xs (k : Int) := ⟨_, rfl⟩
        rw [← hks] at CK hul
        have HU := Lib.hid hul
        unfold OutR at CK
        clear h1 h2 hT hks hul
        go_wp2_with (first
          | (go_at_call 55; refine (CI.out _).mono ?_; rintro e w' ⟨rfl, rfl⟩)
          | (go_at_call 30; refine CT.out.mono ?_; rintro e w' ⟨rfl, m, rfl⟩; have R4 := Lib.hid (R3.out.below (below_drA (Below.refl _ _) m))))
        refine (CN.out B _ 2 R4.out.2.2.1 (by omega) (by omega)).mono ?_
        rintro e w5 ⟨r, hr0, hr1, rfl, hS5, g5⟩
        have R5 := Lib.hid (R4.out.next hS5 g5)
        clear hS5 g5 R4 R3 CT CI hr1
        by_cases hr : r = 0
        · subst hr
          go_wp2_with fail
          refine (CK.out _ R5.out).mono ?_
          rintro e w6 ⟨A6, n6, c6, rfl, hO6, hb6⟩
          have R6 := Lib.hid (R5.out.below hb6)
          have O6 : Hid (w6.ownsRow w5.heap.size 2 1 (.slice A6 n6 c6) n6 (intV ks)) := Lib.hid hO6
          have HN6 : Hid (n6 = ks.length) := Lib.hid (by have := hO6.1; rw [intV_len] at this; omega)
          have hB5 : B < w5.heap.size := R5.out.2.2.1.lt
          have hp6 : 0 < n6 := by have := HU.out; have := HN6.out; omega
          have hp7 : n6 ≤ 20 := by have := HU.out; have := HN6.out; omega
          clear hO6 hb6 R5 CK CLS CN
          have CN6 := Lib.hid (fun W (hW : Src W B len) => cNext B len (n6 : Int) W hlen (by omega) (by omega) hW)
          obtain ⟨g6, c6', hv, _, hgl⟩ := World.ownsRow.form O6.out hp6
          injection hv with e1 e2 e3
          subst e1
          go_wp2_with fail
          go_region_with ((go_at_call 56; refine (CN6.out _ (src_drew10 R6.out.2.2.1)).mono ?_; rintro e w7 ⟨q0, hq50, hq51, rfl, hS7, g7⟩; (obtain ⟨q, rfl⟩ : ∃ q : Nat, q0 = q := ⟨q0.toNat, by omega⟩); (have hq : q < n6 := by omega); (have hqi : (q : Int) < (n6 : Int) := by omega); (have hqn : (0 : Int) ≤ (q : Int) := Int.natCast_nonneg _); (obtain ⟨y, hy⟩ : ∃ y, ks[q]? = some y := ⟨ks[q]'(by have := HN6.out; omega), List.getElem?_eq_getElem _⟩); (have FX := Lib.hid (FN.out _ _ y R6.out hS7 (drew_grown10 g7))); (have hcy := (World.ownsRow.cellAt (own_src10 (own_drew10 O6.out) g7 hB5) q (by omega)).trans (intV_at _ _ _ hy)); clear hS7 g7 hq50 hq51 hy))
          all_goals
            go_wp2_with fail
            go_ret3
            exact FX.out
        · have dr : (r == 0) = false := by rw [beq_eq_false_iff_ne]; exact hr
          go_wp2_with (go_at_call 47; refine (CLS.out _ R5.out).mono ?_; rintro e w6 ⟨r6, rfl, hS6, g6⟩; have FX := Lib.hid (FN.out _ _ r6 R5.out hS6 g6); clear hS6 g6)
          go_ret3
          exact FX.out
  · have p1 : decide ((0 : Int) < (n : Int)) = false := decide_eq_false (by omega)
    go_wp2_with (go_at_call 47; refine (CLS.out _ R3.out).mono ?_; rintro e w4 ⟨r, rfl, hS4, g4⟩; have FX := Lib.hid (FN.out _ _ r R3.out hS4 g4); clear hS4 g4)
    go_ret3
    exact FX.out
end Go.Proofs.Ytlogbgkbdjdkkaa
