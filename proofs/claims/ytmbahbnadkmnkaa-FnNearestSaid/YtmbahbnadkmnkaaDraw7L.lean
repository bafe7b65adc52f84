/-
  The contract of spec.l07List: a drawn list of texts in a row of one's own.
-/
import Derived.Test.YtmbahbnadkmnkaaDraw7
import Derived.Test.YtmbahbnadkmnkaaDrawPush
namespace Go.Proofs.Ytmbahbnadkmnkaa
set_option linter.unusedVariables false
open Go.RowKit

def sufB (i : Nat) : ByteArray := [(⟨#[]⟩ : ByteArray), ⟨#[115]⟩, ⟨#[101]⟩, ⟨#[116, 104]⟩].getD i ByteArray.empty
theorem sufB_size (i : Nat) (h : i < 4) : (sufB i).size ≤ 2 := by
  match i, h with
  | 0, _ => decide
  | 1, _ => decide
  | 2, _ => decide
  | 3, _ => decide
theorem sufAt (w : World) (i : Nat) (h : i < 4) : (w.alloc (.cells #[.string ⟨#[]⟩, .string ⟨#[115]⟩, .string ⟨#[101]⟩, .string ⟨#[116, 104]⟩] 9)).cell? ⟨w.heap.size, i, none⟩ = some (.string (sufB i)) := by
  rw [World.cell?_alloc_at _ _ _ _ rfl]
  match i, h with
  | 0, _ => rfl
  | 1, _ => rfl
  | 2, _ => rfl
  | 3, _ => rfl
/-- A row of texts on its way. -/
def LSt (w : World) (B len : Nat) (V : World) (A : Option Addr) (m c : Nat) (ls : List ByteArray) : Prop :=
  V.ownsRow w.heap.size 9 1 (.slice A m c) m (strV ls) ∧ Src V B len ∧ w.grownBy V (some B) ∧ B < w.heap.size
theorem LSt.src {w V : World} {B len m c : Nat} {A : Option Addr} {ls : List ByteArray} (h : LSt w B len V A m c ls) : Src V B len := h.2.1
theorem LSt.next {w V V' : World} {B len m c : Nat} {A : Option Addr} {ls : List ByteArray} (h : LSt w B len V A m c ls) (hS : Src V' B len) (hg : V.grownBy V' (some B)) : LSt w B len V' A m c ls :=
  ⟨own_srcB h.1 hg h.2.2.2, hS, h.2.2.1.trans hg, h.2.2.2⟩
theorem LSt.alloc {w V : World} {B len m c : Nat} {A : Option Addr} {ls : List ByteArray} (h : LSt w B len V A m c ls) (o : Obj) : LSt w B len (V.alloc o) A m c ls :=
  ⟨h.1.alloc o, srcAlloc h.2.1 o, h.2.2.1.trans (World.grownBy_alloc V o (some B)), h.2.2.2⟩
theorem LSt.drew {w V : World} {B len m c : Nat} {A : Option Addr} {ls : List ByteArray} (h : LSt w B len V A m c ls) : LSt w B len V.drew A m c ls :=
  ⟨h.1, h.2.1, ⟨h.2.2.1.os, h.2.2.1.tape, h.2.2.1.output, h.2.2.1.size, h.2.2.1.block⟩, h.2.2.2⟩
theorem wpList_app7 {ops : Array Oper} {rest : List Oper} {o : Oper} {a : Act} {Q : Exit → Act → World → Prop} {w V : World} {B len m c : Nat} {A : Option Addr} {ls : List ByteArray} {y : ByteArray} (hL : LSt w B len V A m c ls) (hgd : o.guard = none) (s x : Operand)
    (ho : o.op = .call { callee := .builtin .append, args := #[s, x], argTypes := #[24, 24] }) (hs : a.eval s = .slice A m c) (hx : a.eval x = .slice (some ⟨V.heap.size, 0, none⟩) 1 1) (hm : m ≤ 1048576)
    (h : ∀ (A' : Option Addr) (c' : Nat) (w' : World), LSt w B len w' A' (m + 1) c' (ls ++ [y]) → wpList Try.prog ops Q rest (a.put o.dst (.slice A' (m + 1) c')) w') : wpList Try.prog ops Q (o :: rest) a (V.alloc (.cells #[.string y] 9)) :=
  wpList_push_str hgd s x ho w.heap.size _ m ls hs (hL.1.alloc _) V.heap.size hx y (new_one V _ _) hm (Nat.le_trans hL.2.2.1.size (by simp)) (fun A' c' w' h1 h2 => h A' c' w' ⟨h1, (srcAlloc hL.2.1 _).own h2 (own_gt hL.1 hL.2.2.2), grown_ownB (hL.2.2.1.trans (World.grownBy_alloc V _ (some B))) h2 (own_lo hL.1 (Nat.le_refl _)), hL.2.2.2⟩)
/-- Before the choice of an ending. -/
def Rdy (w : World) (B len g m c : Nat) (ls : List ByteArray) (x0 : ByteArray) (V : World) : Prop := LSt w B len V (some ⟨g, 0, none⟩) m c ls ∧ V.cell? ⟨g, 0, none⟩ = some (.string x0) ∧ B < g
def sufO : Obj := .cells #[.string ⟨#[]⟩, .string ⟨#[115]⟩, .string ⟨#[101]⟩, .string ⟨#[116, 104]⟩] 9
theorem Rdy.drew {w V : World} {B len g m c : Nat} {ls : List ByteArray} {x0 : ByteArray} (h : Rdy w B len g m c ls x0 V) : Rdy w B len g m c ls x0 V.drew := ⟨h.1.drew, h.2.1, h.2.2⟩
theorem Rdy.alloc {w V : World} {B len g m c : Nat} {ls : List ByteArray} {x0 : ByteArray} (h : Rdy w B len g m c ls x0 V) (o : Obj) : Rdy w B len g m c ls x0 (V.alloc o) :=
  ⟨h.1.alloc o, ((Below.refl V.heap.size V).alloc (Nat.le_refl _) o).cell (p := ⟨g, 0, none⟩) (World.block_lt_of_cell? V _ h.2.1) |>.trans h.2.1, h.2.2⟩
theorem Rdy.next {w V V' : World} {B len g m c : Nat} {ls : List ByteArray} {x0 : ByteArray} (h : Rdy w B len g m c ls x0 V) (hS : Src V' B len) (hg : V.grownBy V' (some B)) : Rdy w B len g m c ls x0 V' :=
  ⟨h.1.next hS hg, hg.cell h.2.1 (fun e => by have := h.2.2; simp at e; omega), h.2.2⟩
theorem suf_next {V V' : World} {B h i : Nat} {x : Value} (T : V.cell? ⟨h, i, none⟩ = some x) (hg : V.grownBy V' (some B)) (hB : B < h) : V'.cell? ⟨h, i, none⟩ = some x := hg.cell T (fun e => by simp at e; omega)
/-- A drawn row of texts. -/
def ListPost (w : World) (B len : Nat) (e : Ending) (w' : World) : Prop :=
  ∃ A n c ls, e = .returned (.slice A n c) ∧ w'.ownsRow w.heap.size 9 1 (.slice A n c) n (strV ls) ∧ n ≤ 21 ∧ (∀ x ∈ ls, x.size ≤ 128) ∧ Src w' B len ∧ w.grownBy w' (some B)
def slLen7 : Value → Nat
  | .slice _ n _ => n
  | _ => 0
theorem sz_app {ls : List ByteArray} {x : ByteArray} {m : Nat} (h : ∀ y ∈ ls, y.size ≤ 64 + 2 * m) (hx : x.size ≤ 64 + 2 * (m + 1)) : ∀ y ∈ ls ++ [x], y.size ≤ 64 + 2 * (m + 1) := by
  intro y hy
  rw [List.mem_append, List.mem_singleton] at hy
  rcases hy with hy | rfl
  · have := h y hy; omega
  · exact hx
theorem sz_ash {ls : List ByteArray} {x : ByteArray} (h : ∀ y ∈ ls, y.size ≤ 128) (hx : x.size ≤ 128) : ∀ y ∈ ls ++ [x], y.size ≤ 128 := by
  intro y hy
  rw [List.mem_append, List.mem_singleton] at hy
  rcases hy with hy | rfl
  · exact h y hy
  · exact hx

set_option maxHeartbeats 4000000 in
set_option maxRecDepth 100000 in
theorem cList (B len : Nat) (w : World) (hlen : len ≤ 1048576) (h : Src w B len) :
    Calls Try.prog 65 #[.pointer (some ⟨B, 0, none⟩)] w (ListPost w B len) := by
  have hlt := h.lt
  have HL1 : Hid (LSt w B len (w.alloc (.cells #[] 9)) (some ⟨w.heap.size, 0, none⟩) 0 0 []) := Lib.hid ⟨World.ownsRow_lit (e := 9) (base := w.heap.size) (size := 1) w #[] 0 (Nat.le_refl _) (by decide) rfl, srcAlloc h _, World.grownBy_alloc w _ _, hlt⟩
  have CN := Lib.hid (fun (V : World) (n : Int) (hV : Src V B len) (h1 : -1000000000 ≤ n) (h2 : n ≤ 10000000000) => cNext B len n V hlen h1 h2 hV)
  have CD := Lib.hid (fun (V : World) (hV : Src V B len) => cDrawWord B len V hlen hV)
  clear h
  go_enter Try.func65, Try.ntmps65
  go_wp2_with fail
  refine (CN.out _ 7 HL1.out.src (by omega) (by omega)).mono ?_
  rintro e w2 ⟨r, hr0, hr1, rfl, hS2, hg2⟩
  have HL2 := Lib.hid (HL1.out.next hS2 hg2)
  obtain ⟨j, rfl⟩ : ∃ j : Nat, r = j := ⟨r.toNat, by omega⟩
  have hj6 : j ≤ 6 := by omega
  clear hS2 hg2 HL1 hr1
  go_wp2_with fail
  go_loopw [3, 4, 5] (fun ov i tv wr => ∃ (k m c : Nat) (A : Option Addr) (ls : List ByteArray) (t : Value), ov = .slice A m c ∧ t = tv ∧ i = .int .i64 k ∧ m + k ≤ 6 ∧ Hid (LSt w B len wr A m c ls) ∧ Hid (∀ y ∈ ls, y.size ≤ 64 + 2 * m)) (fun _ i _ _ => (intOf i).toNat)
  case atStart => exact ⟨j, 0, 0, _, [], _, rfl, rfl, rfl, by omega, HL2, Lib.hid (by simp)⟩
  case round =>
    clear HL2
    obtain ⟨k, m, c, A, ls, t, rfl, rfl, rfl, hmk, HL, HZ⟩ := hrel
    by_cases hk : 0 < k
    · obtain ⟨q, rfl⟩ : ∃ q, k = q + 1 := ⟨k - 1, by omega⟩
      have hk2 : (0 : Int) < ((q + 1 : Nat) : Int) := by omega
      go_wp2_with fail
      refine (CD.out _ HL.out.src).mono ?_
      rintro e w3 ⟨x, hx64, rfl, hS3, hg3⟩
      have HL3 := Lib.hid (HL.out.next hS3 hg3)
      clear hS3 hg3 HL
      rcases Nat.eq_zero_or_pos m with rfl | hmp
      · go_wp2_with (first
          | (at_builtin; refine wpList_app7 HL3.out rfl _ _ rfl rfl rfl (by omega) ?_; intro A2 c2 w9 hl9; have HL9 := Lib.hid hl9; clear hl9))
        go_roundw
        case rel => exact ⟨q, 0 + 1, c2, A2, _, _, rfl, rfl, by go_num, by omega, HL9, Lib.hid (sz_app HZ.out (by omega))⟩
        case measure => simp [intOf]
      have dm : (0 : Int) < (m : Int) := by omega
      obtain ⟨g, cap, he, hg1, hgl⟩ := HL3.out.1.form hmp
      obtain ⟨rfl, rfl⟩ : A = some ⟨g, 0, none⟩ ∧ c = cap := by injection he with h1 h2 h3; exact ⟨h1, h3⟩
      clear he
      go_wp2_with fail
      refine (CN.out _ 3 HL3.out.src (by omega) (by omega)).mono ?_
      rintro e w4 ⟨r, hr0, hr1, rfl, hS4, hg4⟩
      have HL4 := Lib.hid (HL3.out.next hS4 hg4)
      have hgl4 : g < w4.heap.size := Nat.lt_of_lt_of_le hgl hg4.size
      clear hS4 hg4 HL3 hgl hr1
      by_cases hr : r = 0
      · subst hr
        obtain ⟨x0, hx0⟩ : ∃ x0, ls[0]? = some x0 := ⟨ls[0]'(by have := HL4.out.1.1; rw [strV_len] at this; omega), List.getElem?_eq_getElem _⟩
        have hx0s : x0.size ≤ 64 + 2 * m := HZ.out x0 (List.mem_of_getElem? hx0)
        have kc : w4.cell? ⟨g, 0, none⟩ = some (.string x0) := (HL4.out.1.cellAt 0 (by omega)).trans (strV_at _ _ _ hx0)
        have R0 : Rdy w B len g m c ls x0 w4 := ⟨HL4.out, kc, by omega⟩
        have R1 := Lib.hid R0.drew
        have R2 := Lib.hid (R0.alloc sufO).drew
        have R3 := Lib.hid (R0.drew.alloc sufO)
        have T2 : Hid (∀ i : Nat, i < 4 → ((w4.alloc sufO).drew).cell? ⟨w4.heap.size, i, none⟩ = some (.string (sufB i))) := Lib.hid (sufAt w4)
        have T3 : Hid (∀ i : Nat, i < 4 → (w4.drew.alloc sufO).cell? ⟨w4.heap.size, i, none⟩ = some (.string (sufB i))) := Lib.hid (sufAt w4.drew)
        have hB4 : B < w4.heap.size := by omega
        clear hx0 hr0 R0
        go_wp2_with fail
        go_cut [5] from 9 to 35 (fun t wx => ∃ y : ByteArray, t = .string y ∧ y.size ≤ 64 + 2 * m + 2 ∧ Hid (LSt w B len wx (some ⟨g, 0, none⟩) m c ls))
        case first =>
          go_region_with ((go_at_call 52; (first | (refine (CN.out _ 4 R1.out.1.src (by omega) (by omega)).mono ?_; rintro e w5 ⟨q5, hq0, hq1, rfl, hS5, hg5⟩; have r5 := R1.out.next hS5 hg5; obtain ⟨i, rfl⟩ : ∃ i : Nat, q5 = i := ⟨q5.toNat, by omega⟩; have hi4 : i < 4 := (by omega)) | ((refine (CN.out _ 4 R2.out.1.src (by omega) (by omega)).mono ?_); (rintro e w5 ⟨q5, hq0, hq1, rfl, hS5, hg5⟩); (have r5 := R2.out.next hS5 hg5); (obtain ⟨i, rfl⟩ : ∃ i : Nat, q5 = i := ⟨q5.toNat, by omega⟩); (have hi4 : i < 4 := (by omega));  have q3 : w5.cell? ⟨w4.heap.size, i, none⟩ = some (.string (sufB i)) := suf_next (T2.out i hi4) hg5 hB4) | (refine (CN.out _ 4 R3.out.1.src (by omega) (by omega)).mono ?_; rintro e w5 ⟨q5, hq0, hq1, rfl, hS5, hg5⟩; have r5 := R3.out.next hS5 hg5; obtain ⟨i, rfl⟩ : ∃ i : Nat, q5 = i := ⟨q5.toNat, by omega⟩; have hi4 : i < 4 := (by omega); have q3 : w5.cell? ⟨w4.heap.size, i, none⟩ = some (.string (sufB i)) := suf_next (T3.out i hi4) hg5 hB4)); (have hi4z : (i : Int) < 4 := (by omega)); (have hsz := sufB_size i hi4); (have q2 := sufAt w5 i hi4); (have q1 := r5.2.1); (have hgl5 : g < w5.heap.size := World.block_lt_of_cell? w5 _ q1); (have L5 := Lib.hid r5.1); (clear hg5 hS5 hq1 r5)))
          all_goals (go_wp2_with fail; go_meet)
          all_goals exact ⟨_, rfl, (by rw [ByteArray.size_append]; omega), (by first | exact L5 | exact Lib.hid L5.out.drew | exact Lib.hid (L5.out.alloc _) | exact Lib.hid (L5.out.alloc _).drew)⟩
        case rest =>
          obtain ⟨y, rfl, hy, HLX⟩ := hcut
          clear HL4 R1 R2 R3 T2 T3
          go_wp2_with (first
            | (at_builtin; refine wpList_app7 HLX.out rfl _ _ rfl rfl rfl (by omega) ?_; intro A2 c2 w9 hl9; have HL9 := Lib.hid hl9; clear hl9))
          go_roundw
          case rel => exact ⟨q, m + 1, c2, A2, _, _, rfl, rfl, by go_num, by omega, HL9, Lib.hid (sz_app HZ.out (by omega))⟩
          case measure => simp [intOf]
      · have dr : (r == 0) = false := by rw [beq_eq_false_iff_ne]; exact hr
        go_wp2_with (first
          | (at_builtin; refine wpList_app7 HL4.out rfl _ _ rfl rfl rfl (by omega) ?_; intro A2 c2 w9 hl9; have HL9 := Lib.hid hl9; clear hl9))
        go_roundw
        case rel => exact ⟨q, m + 1, c2, A2, _, _, rfl, rfl, by go_num, by omega, HL9, Lib.hid (sz_app HZ.out (by omega))⟩
        case measure => simp [intOf]
    · obtain rfl : k = 0 := by omega
      have hz : ∀ y ∈ ls, y.size ≤ 128 := fun y hy => by have := HZ.out y hy; omega
      have HZ2 := Lib.hid hz
      have hm6 : m ≤ 6 := by omega
      clear hz HZ hmk hk
      go_wp2_with fail
      refine (CN.out _ 24 HL.out.src (by omega) (by omega)).mono ?_
      rintro e w3 ⟨r, hr0, hr1, rfl, hS3, hg3⟩
      have HL3 := Lib.hid (HL.out.next hS3 hg3)
      clear hS3 hg3 HL hr1
      by_cases hr : r = 0
      · subst hr
        clear hr0
        go_wp2_with fail
        go_loopw [3] (fun ov wr => ∃ (m c : Nat) (A : Option Addr) (ls : List ByteArray), ov = .slice A m c ∧ m ≤ 21 ∧ Hid (LSt w B len wr A m c ls) ∧ Hid (∀ y ∈ ls, y.size ≤ 128)) (fun ov _ => 21 - slLen7 ov)
        case atStart => exact ⟨m, c, A, ls, rfl, by omega, HL3, HZ2⟩
        case round =>
          clear HL3 HZ2
          obtain ⟨m, c, A, ls, rfl, hm, HL, HZ⟩ := hrel
          go_wp2_with fail
          refine (CN.out _ 2 HL.out.src (by omega) (by omega)).mono ?_
          rintro e w4 ⟨r, hr0, hr1, rfl, hS4, hg4⟩
          have HL4 := Lib.hid (HL.out.next hS4 hg4)
          clear hS4 hg4 HL
          by_cases hlt2 : (m : Int) < 20 + r
          · have hmw : m ≤ 20 := by omega
            go_wp2_with (first
              | (at_builtin; refine wpList_app7 HL4.out rfl _ _ rfl rfl rfl (by omega) ?_; intro A2 c2 w9 hl9; have HL9 := Lib.hid hl9; clear hl9))
            go_roundw
            case rel => exact ⟨m + 1, c2, A2, _, rfl, by omega, HL9, Lib.hid (sz_ash HZ.out (by decide))⟩
            case measure => simp [slLen7]; omega
          · go_wp2_with fail
            go_ret
            exact ⟨A, m, c, ls, rfl, HL4.out.1, hm, HZ.out, HL4.out.2.1, HL4.out.2.2.1⟩
      · have dr : (r == 0) = false := by rw [beq_eq_false_iff_ne]; exact hr
        go_wp2_with fail
        go_ret
        exact ⟨A, m, c, ls, rfl, HL3.out.1, by omega, HZ2.out, HL3.out.2.1, HL3.out.2.2.1⟩
end Go.Proofs.Ytmbahbnadkmnkaa
