/-
  The contracts of spec.DrawRenameIn and of spec.DrawBestIn.
-/
import Derived.Test.YthlilfdndpnbkaaGreatDoorNzD
import Derived.Test.YthlilfdndpnbkaaGreatDoorMu23
import Derived.Test.YthlilfdndpnbkaaGreatDoorMu9
namespace Go.Proofs.YthlilfdndpnbkaaGreatDoor
set_option linter.unusedVariables false
open Go.RowKit

theorem results_fourZ {fn : Func} {t u v x : Tmp} (h : fn.results = #[.tmp t, .tmp u, .tmp v, .tmp x]) (tmps : Array Value) (P : Program) (w : World) :
    (results fn tmps).run P w = .ok (.tuple #[tmps.getD t undef, tmps.getD u undef, tmps.getD v undef, tmps.getD x undef]) w := by
  simp [results, h]
def DLR (w : World) (e : Ending) (w' : World) : Prop := ∃ (A : Option Addr) (n c : Nat) (xs : List Nm) (t : ByteArray) (y : Int) (s : ByteArray), e = .returned (.tuple #[.slice A n c, .string t, .int .i64 y, .string s]) ∧ t.size ≤ 8 ∧ (-4100 ≤ y ∧ y ≤ 4100) ∧ s.size ≤ 2000 ∧ DL w A n c xs w'
def DLB (w : World) (e : Ending) (w' : World) : Prop := ∃ (A : Option Addr) (n c : Nat) (xs : List Nm) (A' : Option Addr) (n' c' : Nat) (ls : List ByteArray) (y : Int), e = .returned (.tuple #[.slice A n c, .slice A' n' c', .int .i64 y]) ∧ n' ≤ 3 ∧ (∀ x ∈ ls, x.size ≤ 8) ∧ w'.ownsRow w.heap.size 9 1 (.slice A' n' c') n' (strV ls) ∧ DL w A n c xs w'

set_option maxHeartbeats 1000000 in
set_option maxRecDepth 100000 in
theorem cDrawRn (A : Option Addr) (len cap : Nat) (w : World) (hlen : len ≤ 1048576) (h : CodeIn w A len) :
    Calls Tryz.prog 14 #[.slice A len cap] w (DLR w) := by
  have C0 := Lib.hid (cFrom A len cap w hlen h)
  have HC := Lib.hid h
  obtain ⟨B, hB⟩ : ∃ B, B = w.heap.size := ⟨_, rfl⟩
  have HB := Lib.hid hB
  rw [← hB] at C0
  clear h hB
  go_enter Tryz.func14, Tryz.ntmps14
  go_wp2_with fail
  refine C0.out.mono ?_
  rintro e w1 ⟨rfl, hS1, hb1⟩
  have hlt1 := hS1.lt
  have HB1 : Hid (Below w.heap.size w w1) := Lib.hid (by rw [← HB.out]; exact hb1)
  have S1 := Lib.hid hS1
  have C1 := Lib.hid (cDrawOff A len cap w1 hlen (HC.out.belowZ HB1.out))
  clear hS1 hb1 C0 HC
  go_wp2_with fail
  refine C1.out.mono ?_
  rintro e w2 ⟨A2, n, c, xs, t, y, rfl, ht, hy, hn, hsm, hN2, hb2⟩
  have R2 : Hid (RN w B len w2 w1.heap.size A2 n c xs) := Lib.hid ⟨hN2, hlt1, S1.out.belowZ hb2, HB1.out.trans (hb2.mono HB1.out.size), Nat.le_of_eq HB.out.symm, hsm, hn⟩
  clear hN2 hb2 C1 S1 HB1 hsm
  have C2 := Lib.hid (cDrawPhrase B len w2 hlen R2.out.src)
  go_wp2_with fail
  refine C2.out.mono ?_
  rintro e w3 ⟨s, hs, rfl, hS3, g3⟩
  have R3 := Lib.hid (R2.out.next hS3 g3)
  clear hS3 g3 R2 C2
  go_wp2_with fail
  (try simp only [Exit.inBlock, Exit.then])
  refine bodyPost_ret (results_fourZ rfl _ _ _) rfl ?_
  exact ⟨A2, n, c, xs, t, y, s, rfl, ht, hy, hs, R3.out.dl⟩

/-- The languages that are being drawn, beside the list. -/
structure BS9 (w : World) (B len : Nat) (V : World) (R : Nat) (A : Option Addr) (n c : Nat) (xs : List Nm) (R2 m : Nat) (v : Value) (ls : List ByteArray) : Prop where
  rn : RN w B len V R A n c xs
  row : V.ownsRow R2 9 1 v m (strV ls)
  lt : B < R2
  hi : R2 ≤ V.heap.size
  sm : ∀ x ∈ ls, x.size ≤ 8
  ne : ∀ k, (Value.slice A n c).ownBlock = some k → k < R2
theorem BS9.next {w V V' : World} {B len R n c R2 m : Nat} {A : Option Addr} {xs : List Nm} {v : Value} {ls : List ByteArray} (h : BS9 w B len V R A n c xs R2 m v ls) (hS : Src V' B len) (hg : V.grownBy V' (some B)) : BS9 w B len V' R A n c xs R2 m v ls :=
  ⟨h.rn.next hS hg, own_srcL h.row hg h.lt, h.lt, Nat.le_trans h.hi hg.size, h.sm, h.ne⟩
theorem BS9.alloc {w V : World} {B len R n c R2 m : Nat} {A : Option Addr} {xs : List Nm} {v : Value} {ls : List ByteArray} (h : BS9 w B len V R A n c xs R2 m v ls) (o : Obj) : BS9 w B len (V.alloc o) R A n c xs R2 m v ls := h.next (h.rn.src.alloc o) (World.grownBy_alloc V o (some B))
theorem wpList_bs9 {ops : Array Oper} {rest : List Oper} {o : Oper} {a : Act} {Q : Exit → Act → World → Prop} {w V : World} {B len R n c R2 m : Nat} {A : Option Addr} {xs : List Nm} {v : Value} {ls : List ByteArray} {y : ByteArray} (hL : BS9 w B len V R A n c xs R2 m v ls) (hy : y.size ≤ 8) (hgd : o.guard = none) (s x : Operand)
    (ho : o.op = .call { callee := .builtin .append, args := #[s, x], argTypes := #[48, 48] }) (hs : a.eval s = v) (hx : a.eval x = .slice (some ⟨V.heap.size, 0, none⟩) 1 1) (hm : m ≤ 1048576)
    (h : ∀ (A' : Option Addr) (c' : Nat) (w' : World), BS9 w B len w' R A n c xs R2 (m + 1) (.slice A' (m + 1) c') (ls ++ [y]) → wpList Tryz.prog ops Q rest (a.put o.dst (.slice A' (m + 1) c')) w') : wpList Tryz.prog ops Q (o :: rest) a (V.alloc (.cells #[.string y] 9)) := by
  have h0 := hL.alloc (.cells #[.string y] 9)
  refine wpList_push_str hgd s x ho R2 v m ls hs h0.row V.heap.size hx y (by rw [World.cell?_alloc_at _ _ _ _ rfl]; rfl) hm h0.hi ?_
  intro A' c' w' h1 h2
  have hlo : ∀ k, v.ownBlock = some k → R2 ≤ k := fun k hk => (hL.row.lt k hk).1
  have hlB := hL.lt
  have hR := h0.rn
  have hwB := hR.lo
  refine h A' c' w' ⟨⟨hR.own.kept h2 ?_, hR.lt, hR.src.own h2 (fun k hk => by have := hlo k hk; omega), hR.below.grown h2 hR.below.size (fun k hk => by have := hlo k hk; omega), hR.lo, hR.small, hR.le⟩, h1, hL.lt, Nat.le_trans h0.hi h2.size, ?_, hL.ne⟩
  · cases h0v : (Value.slice A n c).ownBlock with
    | none => exact .inl rfl
    | some k =>
      refine .inr (fun e => ?_)
      have h3 := hlo k e.symm
      have h4 := hL.ne k h0v
      omega
  · intro z hz
    rw [List.mem_append, List.mem_singleton] at hz
    rcases hz with hz | rfl
    · exact hL.sm z hz
    · exact hy

set_option maxHeartbeats 4000000 in
set_option maxRecDepth 100000 in
theorem cDrawBe (A : Option Addr) (len cap : Nat) (w : World) (hlen : len ≤ 1048576) (h : CodeIn w A len) :
    Calls Tryz.prog 23 #[.slice A len cap] w (DLB w) := by
  have C0 := Lib.hid (cFrom A len cap w hlen h)
  have HC := Lib.hid h
  obtain ⟨B, hB⟩ : ∃ B, B = w.heap.size := ⟨_, rfl⟩
  have HB := Lib.hid hB
  rw [← hB] at C0
  clear h hB
  go_enter Tryz.func23, Tryz.ntmps23
  go_wp2_with fail
  refine C0.out.mono ?_
  rintro e w1 ⟨rfl, hS1, hb1⟩
  have hlt1 := hS1.lt
  have HB1 : Hid (Below w.heap.size w w1) := Lib.hid (by rw [← HB.out]; exact hb1)
  have S1 := Lib.hid hS1
  have C1 := Lib.hid (cDrawUsed A len cap w1 hlen (HC.out.belowZ HB1.out))
  clear hS1 hb1 C0 HC
  go_wp2_with fail
  refine C1.out.mono ?_
  rintro e w2 ⟨A2, n, c, xs, y, rfl, hy, hn, hsm, hN2, hb2⟩
  have R2 : Hid (RN w B len w2 w1.heap.size A2 n c xs) := Lib.hid ⟨hN2, hlt1, S1.out.belowZ hb2, HB1.out.trans (hb2.mono HB1.out.size), Nat.le_of_eq HB.out.symm, hsm, hn⟩
  have K0 : Hid (BS9 w B len (w2.alloc (.cells #[] 9)) w1.heap.size A2 n c xs w2.heap.size 0 (.slice (some ⟨w2.heap.size, 0, none⟩) 0 0) []) := Lib.hid ⟨R2.out.next (R2.out.src.alloc _) (World.grownBy_alloc _ _ _), World.ownsRow_lit (e := 9) (base := w2.heap.size) (size := 1) w2 #[] 0 (Nat.le_refl _) (by decide) rfl, R2.out.src.lt, by simp, by simp, fun k hk => (hN2.lt k hk).2⟩
  have CN := Lib.hid (fun (V : World) (n : Int) (hV : Src V B len) (h1 : -1000000000 ≤ n) (h2 : n ≤ 10000000000) => cNext B len n V hlen h1 h2 hV)
  have CT := Lib.hid (fun (V : World) (h : RN w B len V w1.heap.size A2 n c xs) => cTgD B len A2 n c xs V hlen hn h.small (fun V' hS hg => nm_keepR h.own hg h.lt) h.src)
  clear hN2 hb2 C1 S1 HB1 hsm R2
  go_wp2_with fail
  refine (CN.out _ 4 K0.out.rn.src (by omega) (by omega)).mono ?_
  rintro e w3 ⟨r, hr0, hr1, rfl, hS3, g3⟩
  obtain ⟨j, rfl⟩ : ∃ j : Nat, r = j := ⟨r.toNat, by omega⟩
  have K1 := Lib.hid (K0.out.next hS3 g3)
  have hj3 : j ≤ 3 := by omega
  clear hS3 g3 K0 hr0 hr1
  go_wp2_with fail
  go_loopw [8, 9] (fun ov i wr => ∃ (k m c3 : Nat) (A3 : Option Addr) (ls : List ByteArray), ov = .slice A3 m c3 ∧ i = .int .i64 k ∧ m + k ≤ 3 ∧ Hid (BS9 w B len wr w1.heap.size A2 n c xs w2.heap.size m (.slice A3 m c3) ls)) (fun _ i _ => (intOf i).toNat)
  case atStart => exact ⟨j, 0, 0, _, [], rfl, rfl, by omega, K1⟩
  case round =>
    clear K1 hj3
    obtain ⟨k, m, c3, A3, ls, rfl, rfl, hmk, HK⟩ := hrel
    by_cases hk : 0 < k
    · obtain ⟨q, rfl⟩ : ∃ q, k = q + 1 := ⟨k - 1, by omega⟩
      have hk2 : (0 : Int) < ((q + 1 : Nat) : Int) := by omega
      go_wp2_with fail
      refine (CT.out _ HK.out.rn).mono ?_
      rintro e w4 ⟨t, rfl, ht, hS4, g4⟩
      have HK4 := Lib.hid (HK.out.next hS4 g4)
      clear hS4 g4 HK
      go_wp2_with (at_builtin; refine wpList_bs9 HK4.out ht rfl _ _ rfl rfl rfl (by omega) ?_; intro A5 c5 w5 hk5; have HK5 := Lib.hid hk5; clear hk5)
      go_roundw
      case rel => exact ⟨q, m + 1, c5, A5, _, rfl, by go_num, by omega, HK5⟩
      case measure => simp [intOf]
    · obtain rfl : k = 0 := by omega
      go_wp2_with fail
      go_ret3
      exact ⟨A2, n, c, xs, A3, m, c3, ls, y, rfl, by omega, HK.out.sm, rowBase HK.out.row (by have := HK.out.lt; have := HK.out.rn.lo; omega), HK.out.rn.dl⟩
end Go.Proofs.YthlilfdndpnbkaaGreatDoor
