/-
  The draw of NameOf.
-/
import Derived.Test.YtglmibmjbignbaaGreatDoorGzD
namespace Go.Proofs.YtglmibmjbignbaaGreatDoor
set_option linter.unusedVariables false
open Go.RowKit

/-- The languages that are being drawn, beside the register. -/
structure BP9 (w : World) (B len : Nat) (V : World) (R : Nat) (A : Option Addr) (n c : Nat) (ps : List Pl) (R2 m : Nat) (v : Value) (ls : List ByteArray) : Prop where
  own : ∃ es, plsOf es = ps ∧ OwnP V R R2 A n c es
  lt0 : B < R
  le0 : R ≤ R2
  src : Src V B len
  below : Below w.heap.size w V
  lo : w.heap.size ≤ B
  sm : ∀ p ∈ ps, SmQ p
  le : n ≤ 12
  row : V.ownsRow R2 9 1 v m (strV ls)
  hi : R2 ≤ V.heap.size
  sl : ∀ x ∈ ls, x.size ≤ 8
theorem BP9.next {w V V' : World} {B len R n c R2 m : Nat} {A : Option Addr} {ps : List Pl} {v : Value} {ls : List ByteArray} (h : BP9 w B len V R A n c ps R2 m v ls) (hS : Src V' B len) (hg : V.grownBy V' (some B)) : BP9 w B len V' R A n c ps R2 m v ls := by
  obtain ⟨es, he, ho⟩ := h.own
  have hl := h.lt0
  have hl2 := h.hi
  refine ⟨⟨es, he, ho.like ⟨hg.os, hg.tape, hg.output, hg.size, fun k h1 h2 => hg.block k (by omega) (fun e => by injection e; omega)⟩⟩, h.lt0, h.le0, hS, below_srcG h.below h.lo hg, h.lo, h.sm, h.le, own_srcL h.row hg (by have := h.le0; omega), Nat.le_trans h.hi hg.size, h.sl⟩
theorem BP9.alloc {w V : World} {B len R n c R2 m : Nat} {A : Option Addr} {ps : List Pl} {v : Value} {ls : List ByteArray} (h : BP9 w B len V R A n c ps R2 m v ls) (o : Obj) : BP9 w B len (V.alloc o) R A n c ps R2 m v ls := h.next (h.src.alloc o) (World.grownBy_alloc V o (some B))
theorem BP9.rp {w V : World} {B len R n c R2 m : Nat} {A : Option Addr} {ps : List Pl} {v : Value} {ls : List ByteArray} (h : BP9 w B len V R A n c ps R2 m v ls) : RP w B len V R A n c ps := by
  obtain ⟨es, he, ho⟩ := h.own
  exact ⟨⟨es, he, ho.up h.hi⟩, h.lt0, h.src, h.below, h.lo, h.sm, h.le⟩
theorem wpList_bp9 {ops : Array Oper} {rest : List Oper} {o : Oper} {a : Act} {Q : Exit → Act → World → Prop} {w V : World} {B len R n c R2 m : Nat} {A : Option Addr} {ps : List Pl} {v : Value} {ls : List ByteArray} {y : ByteArray} (hL : BP9 w B len V R A n c ps R2 m v ls) (hy : y.size ≤ 8) (hgd : o.guard = none) (s x : Operand)
    (ho : o.op = .call { callee := .builtin .append, args := #[s, x], argTypes := #[38, 38] }) (hs : a.eval s = v) (hx : a.eval x = .slice (some ⟨V.heap.size, 0, none⟩) 1 1) (hm : m ≤ 1048576)
    (h : ∀ (A' : Option Addr) (c' : Nat) (w' : World), BP9 w B len w' R A n c ps R2 (m + 1) (.slice A' (m + 1) c') (ls ++ [y]) → wpList Tryz.prog ops Q rest (a.put o.dst (.slice A' (m + 1) c')) w') : wpList Tryz.prog ops Q (o :: rest) a (V.alloc (.cells #[.string y] 9)) := by
  have h0 := hL.alloc (.cells #[.string y] 9)
  refine wpList_push_str hgd s x ho R2 v m ls hs h0.row V.heap.size hx y (by rw [World.cell?_alloc_at _ _ _ _ rfl]; rfl) hm h0.hi ?_
  intro A' c' w' h1 h2
  have hlo : ∀ k, v.ownBlock = some k → R2 ≤ k := fun k hk => (hL.row.lt k hk).1
  have hlB := hL.lt0
  have hle0 := hL.le0
  have hwB := hL.lo
  have hhi := h0.hi
  obtain ⟨es, he, hown⟩ := h0.own
  refine h A' c' w' ⟨⟨es, he, hown.like ⟨h2.os, h2.tape, h2.output, h2.size, fun k k1 k2 => h2.block k (by omega) (fun e => by have := hlo k e.symm; omega)⟩⟩, hL.lt0, hL.le0, h0.src.ownL h2 (fun k hk => by have := hlo k hk; omega), h0.below.grown h2 h0.below.size (fun k hk => by have := hlo k hk; omega), hL.lo, hL.sm, hL.le, h1, Nat.le_trans h0.hi h2.size, ?_⟩
  intro z hz
  rw [List.mem_append, List.mem_singleton] at hz
  rcases hz with hz | rfl
  · exact hL.sl z hz
  · exact hy
def DNO (w : World) (e : Ending) (w' : World) : Prop := ∃ (A : Option Addr) (n c : Nat) (ps : List Pl) (t : ByteArray) (A' : Option Addr) (n' c' : Nat) (ls : List ByteArray) (y : Int), e = .returned (.tuple #[.slice A n c, .string t, .slice A' n' c', .int .i64 y]) ∧ t.size ≤ 64 ∧ n' ≤ 3 ∧ (∀ x ∈ ls, x.size ≤ 8) ∧ (-4100 ≤ y ∧ y ≤ 4100) ∧ w'.ownsRow w.heap.size 9 1 (.slice A' n' c') n' (strV ls) ∧ DPl w A n c ps w'

set_option maxHeartbeats 4000000 in
set_option maxRecDepth 100000 in
theorem cDrawNO (A : Option Addr) (len cap : Nat) (w : World) (hlen : len ≤ 1048576) (h : CodeIn w A len) :
    Calls Tryz.prog 35 #[.slice A len cap] w (DNO w) := by
  have C0 := Lib.hid (cFrom A len cap w hlen h)
  have HC := Lib.hid h
  obtain ⟨B, hB⟩ : ∃ B, B = w.heap.size := ⟨_, rfl⟩
  have HB := Lib.hid hB
  rw [← hB] at C0
  clear h hB
  go_enter Tryz.func35, Tryz.ntmps35
  go_wp2_with fail
  refine C0.out.mono ?_
  rintro e w1 ⟨rfl, hS1, hb1⟩
  have hlt1 := hS1.lt
  have HB1 : Hid (Below w.heap.size w w1) := Lib.hid (by rw [← HB.out]; exact hb1)
  have S1 := Lib.hid hS1
  have C1 := Lib.hid (cDrawPF A len cap w1 hlen (HC.out.belowG HB1.out))
  clear hS1 hb1 C0 HC
  go_wp2_with fail
  refine C1.out.mono ?_
  rintro e w2 ⟨A2, n, c, ps, t, rfl, ht, hn, hsm, ⟨es, he, ho⟩, hb2⟩
  have K0 : Hid (BP9 w B len (w2.alloc (.cells #[] 9)) w1.heap.size A2 n c ps w2.heap.size 0 (.slice (some ⟨w2.heap.size, 0, none⟩) 0 0) []) := Lib.hid ⟨⟨es, he, ho.alloc _⟩, hlt1, hb2.size, (S1.out.belowG hb2).alloc _, (HB1.out.trans (hb2.mono HB1.out.size)).alloc (by have := HB1.out.size; have := hb2.size; omega) _, Nat.le_of_eq HB.out.symm, hsm, hn, World.ownsRow_lit (e := 9) (base := w2.heap.size) (size := 1) w2 #[] 0 (Nat.le_refl _) (by decide) rfl, by simp, by simp⟩
  have CN := Lib.hid (fun (V : World) (n : Int) (hV : Src V B len) (h1 : -1000000000 ≤ n) (h2 : n ≤ 10000000000) => cNext B len n V hlen h1 h2 hV)
  have CY := Lib.hid (fun (V : World) (hV : Src V B len) => cYrD B len V hlen hV)
  clear ho he hb2 C1 S1 HB1 hsm
  go_wp2_with fail
  refine (CN.out _ 4 K0.out.src (by omega) (by omega)).mono ?_
  rintro e w3 ⟨r, hr0, hr1, rfl, hS3, g3⟩
  obtain ⟨j, rfl⟩ : ∃ j : Nat, r = j := ⟨r.toNat, by omega⟩
  have K1 := Lib.hid (K0.out.next hS3 g3)
  have hj3 : j ≤ 3 := by omega
  clear hS3 g3 K0 hr0 hr1
  go_wp2_with fail
  go_loopw [9, 10] (fun ov i wr => ∃ (k m c3 : Nat) (A3 : Option Addr) (ls : List ByteArray), ov = .slice A3 m c3 ∧ i = .int .i64 k ∧ m + k ≤ 3 ∧ Hid (BP9 w B len wr w1.heap.size A2 n c ps w2.heap.size m (.slice A3 m c3) ls)) (fun _ i _ => (intOf i).toNat)
  case atStart => exact ⟨j, 0, 0, _, [], rfl, rfl, by omega, K1⟩
  case round =>
    clear K1 hj3
    obtain ⟨k, m, c3, A3, ls, rfl, rfl, hmk, HK⟩ := hrel
    by_cases hk : 0 < k
    · obtain ⟨q, rfl⟩ : ∃ q, k = q + 1 := ⟨k - 1, by omega⟩
      have hk2 : (0 : Int) < ((q + 1 : Nat) : Int) := by omega
      have HKA := Lib.hid (HK.out.alloc (.cells rowLG 9))
      have TA := Lib.hid (TabAt.new wr 9 rowLG)
      go_wp2_with fail
      refine (CN.out _ 6 HKA.out.src (by omega) (by omega)).mono ?_
      rintro e w4 ⟨q0, hq0, hq1, rfl, hS4, g4⟩
      obtain ⟨qq, rfl⟩ : ∃ q : Nat, q0 = q := ⟨q0.toNat, by omega⟩
      have hqq : qq < 6 := by omega
      have e1 : (0 : Int) ≤ (qq : Int) := by omega
      have e2 : (qq : Int) < 6 := by omega
      have T4 := tab_src TA.out HKA.out.src (by decide) g4
      have kc : w4.cell? ⟨wr.heap.size, qq, none⟩ = some (.string (tabLG qq)) := (T4.cell qq).trans (rowLG_at qq hqq)
      have hz := tabLG_size qq hqq
      have HK4 := Lib.hid (HKA.out.next hS4 g4)
      clear hS4 g4 HK HKA TA T4 hq1
      go_wp2_with (at_builtin; refine wpList_bp9 HK4.out hz rfl _ _ rfl rfl rfl (by omega) ?_; intro A5 c5 w5 hk5; have HK5 := Lib.hid hk5; clear hk5)
      go_roundw
      case rel => exact ⟨q, m + 1, c5, A5, _, rfl, by go_num, by omega, HK5⟩
      case measure => simp [intOf]
    · obtain rfl : k = 0 := by omega
      have CYK := Lib.hid (CY.out wr HK.out.src)
      go_wp2_with fail
      refine CYK.out.mono ?_
      rintro e w4 ⟨y, rfl, hy, hS4, g4⟩
      have HK4 := Lib.hid (HK.out.next hS4 g4)
      clear hS4 g4 HK CYK
      go_wp2_with fail
      (try simp only [Exit.inBlock, Exit.then])
      refine bodyPost_ret (results_fourG rfl _ _ _) rfl ?_
      exact ⟨A2, n, c, ps, t, A3, m, c3, ls, y, rfl, ht, by omega, HK4.out.sl, hy, rowBase HK4.out.row (by have := HK4.out.lt0; have := HK4.out.le0; have := HK4.out.lo; omega), HK4.out.rp.dpl⟩
end Go.Proofs.YtglmibmjbignbaaGreatDoor
