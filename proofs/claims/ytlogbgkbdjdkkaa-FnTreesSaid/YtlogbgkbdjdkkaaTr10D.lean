/-
  The contracts of the draws of chapter 10: a drawn tree, a drawn class, and what the laws draw of them.
-/
import Derived.Test.YtlogbgkbdjdkkaaTr10C
import Derived.Test.YtlogbgkbdjdkkaaPick7
import Derived.Test.YtlogbgkbdjdkkaaDrawPush
import Derived.Deep.RegionWith
namespace Go.Proofs.Ytlogbgkbdjdkkaa
set_option linter.unusedVariables false
open Go.RowKit

theorem own_src10 {w w' : World} {base s n B : Nat} {t : TypeId} {v : Value} {xs : List Value} (h : w.ownsRow base t s v n xs) (hg : w.grownBy w' (some B)) (hB : B < base) : w'.ownsRow base t s v n xs :=
  h.kept hg (.inr (fun e => by have := (h.lt B e).1; omega))
theorem own_prefix10 {w : World} {B g n m c : Nat} {t : TypeId} {xs : List Value} (h : w.ownsRow B t 1 (.slice (some ⟨g, 0, none⟩) n c) n xs) (hm : m ≤ n) : w.ownsRow B t 1 (.slice (some ⟨g, 0, none⟩) m c) m (xs.take m) := by
  have hl := h.1
  rcases h.2 with ⟨he, h0⟩ | ⟨g', cap, cur, hv, hg, hb, h1, h2, h3, h4⟩
  · cases he
  · cases hv
    refine ⟨by rw [List.length_take]; omega, .inr ⟨g, c, cur, rfl, hg, hb, by omega, h2, h3, ?_⟩⟩
    rw [← h4, List.take_take]
    congr 1; omega
/-- A row of numbers that is being drawn. -/
def TSt (w : World) (B len : Nat) (V : World) (A : Option Addr) (m c : Nat) (xs : List Int) : Prop :=
  V.ownsRow w.heap.size 2 1 (.slice A m c) m (intV xs) ∧ Src V B len ∧ w.grownBy V (some B) ∧ B < w.heap.size
theorem TSt.src {w V : World} {B len m c : Nat} {A : Option Addr} {xs : List Int} (h : TSt w B len V A m c xs) : Src V B len := h.2.1
theorem TSt.next {w V V' : World} {B len m c : Nat} {A : Option Addr} {xs : List Int} (h : TSt w B len V A m c xs) (hS : Src V' B len) (hg : V.grownBy V' (some B)) : TSt w B len V' A m c xs :=
  ⟨own_src10 h.1 hg h.2.2.2, hS, h.2.2.1.trans hg, h.2.2.2⟩
theorem TSt.alloc {w V : World} {B len m c : Nat} {A : Option Addr} {xs : List Int} (h : TSt w B len V A m c xs) (o : Obj) : TSt w B len (V.alloc o) A m c xs :=
  ⟨h.1.alloc o, srcAlloc h.2.1 o, h.2.2.1.trans (World.grownBy_alloc V o (some B)), h.2.2.2⟩
theorem wpList_app10 {ops : Array Oper} {rest : List Oper} {o : Oper} {a : Act} {Q : Exit → Act → World → Prop} {w V : World} {B len m c : Nat} {A : Option Addr} {xs : List Int} {y : Int} (hL : TSt w B len V A m c xs) (hgd : o.guard = none) (s x : Operand)
    (ho : o.op = .call { callee := .builtin .append, args := #[s, x], argTypes := #[24, 24] }) (hs : a.eval s = .slice A m c) (hx : a.eval x = .slice (some ⟨V.heap.size, 0, none⟩) 1 1) (hm : m ≤ 1048576)
    (h : ∀ (A' : Option Addr) (c' : Nat) (w' : World), TSt w B len w' A' (m + 1) c' (xs ++ [y]) → wpList Try.prog ops Q rest (a.put o.dst (.slice A' (m + 1) c')) w') : wpList Try.prog ops Q (o :: rest) a (V.alloc (.cells #[.int .i64 y] 2)) :=
  wpList_push_int hgd s x ho w.heap.size _ m xs hs (hL.1.alloc _) V.heap.size hx y (new_one V _ _) hm (Nat.le_trans hL.2.2.1.size (by simp)) (fun A' c' w' h1 h2 => h A' c' w' ⟨h1, (srcAlloc hL.2.1 _).own h2 (own_gt hL.1 hL.2.2.2), grown_ownB (hL.2.2.1.trans (World.grownBy_alloc V _ (some B))) h2 (own_lo hL.1 (Nat.le_refl _)), hL.2.2.2⟩)
/-- What is drawn as a tree. -/
def TrPost (w : World) (B len : Nat) (e : Ending) (w' : World) : Prop :=
  ∃ (A : Option Addr) (n c : Nat) (xs : List Int), e = .returned (.slice A n c) ∧ w'.ownsRow w.heap.size 2 1 (.slice A n c) n (intV xs) ∧ n ≤ 21 ∧ Src w' B len ∧ w.grownBy w' (some B)
theorem TSt.post {w V : World} {B len m c : Nat} {A : Option Addr} {xs : List Int} (h : TSt w B len V A m c xs) (hm : m ≤ 21) : TrPost w B len (.returned (.slice A m c)) V := ⟨A, m, c, xs, rfl, h.1, hm, h.2.1, h.2.2.1⟩
theorem intV_setD (xs : List Int) (k : Nat) (x : Int) : (intV xs).set k (.int .i64 x) = intV (xs.set k x) := by unfold intV; rw [List.map_set]
theorem intV_takeD (xs : List Int) (k : Nat) : (intV xs).take k = intV (xs.take k) := by unfold intV; rw [List.map_take]

set_option maxHeartbeats 4000000 in
set_option maxRecDepth 100000 in
theorem cDraw10 (B len : Nat) (w : World) (hlen : len ≤ 1048576) (h : Src w B len) :
    Calls Try.prog 54 #[.pointer (some ⟨B, 0, none⟩)] w (TrPost w B len) := by
  have hlt := h.lt
  have HL1 : Hid (TSt w B len (w.alloc (.cells #[.int .i64 (-1)] 2)) (some ⟨w.heap.size, 0, none⟩) 1 1 [-1]) := Lib.hid ⟨World.ownsRow_lit (e := 2) (base := w.heap.size) (size := 1) w #[.int .i64 (-1)] 1 (Nat.le_refl _) (by decide) rfl, srcAlloc h _, World.grownBy_alloc w _ _, hlt⟩
  have CN := Lib.hid (fun (V : World) (n : Int) (hV : Src V B len) (h1 : -1000000000 ≤ n) (h2 : n ≤ 10000000000) => cNext B len n V hlen h1 h2 hV)
  clear h
  go_enter Try.func54, Try.ntmps54
  go_wp2_with fail
  refine (CN.out _ 9 HL1.out.src (by omega) (by omega)).mono ?_
  rintro e w2 ⟨r, hr0, hr1, rfl, hS2, hg2⟩
  have HL2 := Lib.hid (HL1.out.next hS2 hg2)
  have hr8 : r ≤ 8 := by omega
  clear hS2 hg2 HL1 hr1
  go_wp2_with fail
  go_loopw [3, 4] (fun ov i wr => ∃ (m c z : Nat) (A : Option Addr) (xs : List Int), ov = .slice A m c ∧ i = .int .i64 (z : Int) ∧ m + z ≤ 9 ∧ 1 ≤ m ∧ Hid (TSt w B len wr A m c xs)) (fun _ i _ => (intOf i).toNat)
  case atStart => exact ⟨1, 1, r.toNat, _, _, rfl, by first | rfl | (rw [show ((r.toNat : Nat) : Int) = r by omega]), by omega, Nat.le_refl _, HL2⟩
  case round =>
    clear HL2 hr0 hr8
    obtain ⟨m, c, z, A, xs, rfl, rfl, hmz, hm1, HL⟩ := hrel
    by_cases hz : 0 < z
    · obtain ⟨q, rfl⟩ : ∃ q : Nat, z = q + 1 := ⟨z - 1, by omega⟩
      have hz2 : (0 : Int) < ((q + 1 : Nat) : Int) := by omega
      go_wp2_with fail
      refine (CN.out _ _ HL.out.src (by omega) (by omega)).mono ?_
      rintro e w3 ⟨y, hy0, hy1, rfl, hS3, hg3⟩
      have HL3 := Lib.hid (HL.out.next hS3 hg3)
      clear hS3 hg3 HL hy1
      go_wp2_with (at_builtin; refine wpList_app10 HL3.out rfl _ _ rfl rfl rfl (by omega) ?_; intro A9 c9 w9 hl9; have HL9 := Lib.hid hl9; clear hl9)
      go_roundw
      case rel => exact ⟨m + 1, c9, q, A9, _, rfl, by go_num, by omega, by omega, HL9⟩
      case measure => simp [intOf]
    · obtain rfl : z = 0 := by omega
      go_wp2_with fail
      refine (CN.out _ 24 HL.out.src (by omega) (by omega)).mono ?_
      rintro e w3 ⟨y, hy0, hy1, rfl, hS3, hg3⟩
      have HL3 := Lib.hid (HL.out.next hS3 hg3)
      clear hS3 hg3 HL hy1
      have hm9 : m ≤ 9 := by omega
      obtain ⟨g, cc, he, hg1, hgl⟩ := HL3.out.1.form (show 0 < m by omega)
      obtain ⟨rfl, rfl⟩ : A = some ⟨g, 0, none⟩ ∧ c = cc := by injection he with h1 h2 h3; exact ⟨h1, h3⟩
      clear he
      by_cases h0 : y = 0
      · subst h0
        have e1 : (0 : Int) ≤ (m : Int) - 1 := by omega
        have HL4 := Lib.hid (HL3.out.alloc (.cells #[.int .i64 ((m : Int) - 1), .int .i64 (-1), .int .i64 30] 2))
        have HR := Lib.hid (rowLit w3 [(m : Int) - 1, -1, 30] (-1) 100 (by intro v hv; simp at hv; omega) 2)
        have hne : w3.heap.size ≠ B := by have := HL3.out.src.lt; omega
        have CP := Lib.hid (cPick B len w3.heap.size 3 3 (-1) 100 _ hlen (by omega) (by omega) hne HR.out HL4.out.src)
        clear HL3 HR hgl
        go_wp2_with fail
        refine CP.out.mono ?_
        rintro e w4 ⟨b, hb0, hb1, rfl, hS5, hg5⟩
        have HL5 := Lib.hid (HL4.out.next hS5 hg5)
        clear hS5 hg5 HL4 CP
        obtain ⟨k, rfl⟩ : ∃ k, m = k + 1 := ⟨m - 1, by omega⟩
        have hst := (HL5.out.1.stored k (.int .i64 b)).1
        rw [intV_setD] at hst
        have HL6 : Hid (TSt w B len (w4.setCell ⟨g, k, none⟩ (.int .i64 b)) (some ⟨g, 0, none⟩) (k + 1) c (xs.set k b)) := Lib.hid ⟨hst, Src.set1 (i := k) HL5.out.2.1 (by omega) _, grown_set1 HL5.out.2.2.1 hg1 _, hlt⟩
        have f0 := HL5.out.1.frozenAt k
        have c0 := HL5.out.1.cellAt k (by omega)
        obtain ⟨v0, d0⟩ : ∃ u, w4.cell? ⟨g, k, none⟩ = some u := ⟨_, c0.trans (List.getElem?_eq_getElem (by have := HL5.out.1.1; omega))⟩
        have e2 : ((k + 1 : Nat) : Int) - 1 = (k : Int) := by omega
        have e3 : (0 : Int) ≤ (k : Int) := by omega
        have e4 : (k : Int) < ((k + 1 : Nat) : Int) := by omega
        clear hst c0 HL5
        try rw [e2] at *
        go_wp2_with fail
        go_ret
        exact HL6.out.post (by omega)
      have d0 : (y == 0) = false := by rw [beq_eq_false_iff_ne]; exact h0
      by_cases h1 : y = 1
      · subst h1
        have hp := own_prefix10 HL3.out.1 (show 0 ≤ m by omega)
        rw [intV_takeD] at hp
        have HP : Hid (TSt w B len w3 (some ⟨g, 0, none⟩) 0 c (xs.take 0)) := Lib.hid ⟨hp, HL3.out.2.1, HL3.out.2.2.1, hlt⟩
        have hc0 : 0 ≤ c := Nat.zero_le _
        clear hp
        go_wp2_with fail
        go_ret
        exact HP.out.post (by omega)
      have d1 : (y == 1) = false := by rw [beq_eq_false_iff_ne]; exact h1
      by_cases h2 : y = 2
      · subst h2
        go_wp2_with fail
        go_loopw [3] (fun ov wr => ∃ (m c : Nat) (A : Option Addr) (xs : List Int), ov = .slice A m c ∧ m ≤ 21 ∧ Hid (TSt w B len wr A m c xs)) (fun ov _ => 21 - (match ov with | .slice _ m _ => m | _ => 0))
        case atStart => exact ⟨m, c, _, xs, rfl, by omega, HL3⟩
        case round =>
          clear HL3 hg1 hgl hm9 hm1 hmz
          obtain ⟨m, c, A, xs, rfl, hm, HL⟩ := hrel
          go_wp2_with fail
          refine (CN.out _ 2 HL.out.src (by omega) (by omega)).mono ?_
          rintro e w4 ⟨y, hy0, hy1, rfl, hS4, hg4⟩
          have HL4 := Lib.hid (HL.out.next hS4 hg4)
          clear hS4 hg4 HL
          have hy2 : y ≤ 1 := by omega
          by_cases hlt2 : (m : Int) < 20 + y
          · go_wp2_with (at_builtin; refine wpList_app10 HL4.out rfl _ _ rfl rfl rfl (by omega) ?_; intro A9 c9 w9 hl9; have HL9 := Lib.hid hl9; clear hl9)
            go_roundw
            case rel => exact ⟨m + 1, c9, A9, _, rfl, by omega, HL9⟩
            case measure => simp; omega
          · go_wp2_with fail
            go_ret
            exact HL4.out.post hm
      · have d2 : (y == 2) = false := by rw [beq_eq_false_iff_ne]; exact h2
        go_wp2_with fail
        go_ret
        exact HL3.out.post (by omega)

/-- A drawn number. -/
def ClsPost (w : World) (B len : Nat) (e : Ending) (w' : World) : Prop := ∃ r : Int, e = .returned (.int .i64 r) ∧ Src w' B len ∧ w.grownBy w' (some B)
set_option maxHeartbeats 1000000 in
set_option maxRecDepth 100000 in
theorem cClass10 (B len : Nat) (A : Option Addr) (n c : Nat) (w : World) (hlen : len ≤ 1048576) (hn : n ≤ 1000) (h : Src w B len) :
    Calls Try.prog 47 #[.pointer (some ⟨B, 0, none⟩), .slice A n c] w (ClsPost w B len) := by
  have CN := Lib.hid (fun (V : World) (n : Int) (hV : Src V B len) (h1 : -1000000000 ≤ n) (h2 : n ≤ 10000000000) => cNext B len n V hlen h1 h2 hV)
  have HS := Lib.hid h
  clear h
  go_enter Try.func47, Try.ntmps47
  go_wp2_with fail
  refine (CN.out _ 12 HS.out (by omega) (by omega)).mono ?_
  rintro e w2 ⟨r, hr0, hr1, rfl, hS2, hg2⟩
  obtain ⟨q, hq⟩ : ∃ q, q = r.tdiv 11 := ⟨_, rfl⟩
  have hq1 : 0 ≤ q ∧ q ≤ 1 := by rw [hq, Int.tdiv_eq_ediv_of_nonneg hr0]; omega
  have HS2 := Lib.hid hS2
  have HG2 := Lib.hid hg2
  clear hS2 hg2 hr1
  go_wp2_with fail
  refine (CN.out _ _ HS2.out (by omega) (by omega)).mono ?_
  rintro e w3 ⟨r3, hr30, hr31, rfl, hS3, hg3⟩
  have HS3 := Lib.hid hS3
  have HG3 := Lib.hid (HG2.out.trans hg3)
  clear hS3 hg3 hr31
  go_wp2_with fail
  refine (CN.out _ 12 HS3.out (by omega) (by omega)).mono ?_
  rintro e w4 ⟨r4, hr40, hr41, rfl, hS4, hg4⟩
  have HS4 := Lib.hid hS4
  have HG4 := Lib.hid (HG3.out.trans hg4)
  clear hS4 hg4
  go_wp2_with fail
  go_ret
  exact ⟨_, rfl, HS4.out, HG4.out⟩
end Go.Proofs.Ytlogbgkbdjdkkaa
