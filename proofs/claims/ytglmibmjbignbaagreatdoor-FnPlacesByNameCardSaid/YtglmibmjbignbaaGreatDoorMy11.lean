/-
  The contract of spec.l09List: a drawn list of names.
-/
import Derived.Test.YtglmibmjbignbaaGreatDoorNmD
import Derived.Test.YtglmibmjbignbaaGreatDoorMy10
import Derived.Test.YtglmibmjbignbaaGreatDoorMy6
import Derived.Deep.AppendLies
import Derived.Test.YtglmibmjbignbaaGreatDoorMy4
import Derived.Lib.SlicesCompact
import Derived.Sort.OwnSorted
import Derived.Sort.OwnSortedInts
import Derived.Lib.RowBridge
import Derived.Sort.Walk0
namespace Go.Proofs.YtglmibmjbignbaaGreatDoor
section
set_option linter.unusedVariables false
open Go.RowKit

theorem info_nmZ : (Tryz.prog.info? 100).map (fun i => (i.zero, i.size, i.bytes)) = some (some (.agg #[.string ByteArray.empty, .string ByteArray.empty, .int .i64 0, .int .i64 0, .int .i64 0]), 5, 56) := by kernel_rfl
theorem nm_cellsL {w : World} {B n : Nat} {b o : Nat} {xs : List Nm} (h : NmAt w B (some ⟨b, o, none⟩) n xs) : ∀ (j : Nat) u, (nmV xs)[j]? = some u → w.cell? ((⟨b, o, none⟩ : Addr).add j) = some u := by
  intro j u hu
  have hj := (List.getElem?_eq_some_iff.1 hu).1
  rw [nmV_len] at hj
  obtain ⟨q, r, rfl, hr⟩ : ∃ q r, j = q * 5 + r ∧ r < 5 := ⟨j / 5, j % 5, by omega, by omega⟩
  have hq : q < xs.length := by omega
  have hx : xs[q]? = some xs[q] := List.getElem?_eq_getElem hq
  obtain ⟨b', o', hA, _, c0, c1, c2, c3, c4⟩ := h.row hx
  obtain ⟨rfl, rfl⟩ : b = b' ∧ o = o' := by injection hA with hA; injection hA with e1 e2; exact ⟨e1, e2⟩
  have hv := nmV_at xs q _ hx
  rw [add_plain']
  match r, hr with
  | 0, _ => rw [show q * 5 + 0 = q * 5 from rfl] at hu ⊢; rw [hv.1] at hu; rw [← Option.some.inj hu]; exact c0
  | 1, _ => rw [hv.2.1] at hu; rw [← Option.some.inj hu]; exact c1
  | 2, _ => rw [hv.2.2.1] at hu; rw [← Option.some.inj hu]; exact c2
  | 3, _ => rw [hv.2.2.2.1] at hu; rw [← Option.some.inj hu]; exact c3
  | 4, _ => rw [hv.2.2.2.2] at hu; rw [← Option.some.inj hu]; exact c4
theorem five_oneL (x : Nm) : ∀ u ∈ encN x, u.oneCell' = true := by
  intro u hu; unfold encN at hu; simp at hu; rcases hu with rfl | rfl | rfl | rfl | rfl <;> rfl
theorem nm_oneL (xs : List Nm) : ∀ u ∈ nmV xs, u.oneCell' = true := fun u hu => by
  unfold nmV at hu
  obtain ⟨x, _, hx⟩ := List.mem_flatMap.1 hu
  exact five_oneL x u hx
theorem five_cellsL (w : World) (x : Nm) (t : TypeId) : ∀ (j : Nat) u, (encN x)[j]? = some u → (w.alloc (.cells #[.string x.t, .string x.l, .int .i64 x.s, .int .i64 x.f, .int .i64 x.u] t)).cell? ((⟨w.heap.size, 0, none⟩ : Addr).add j) = some u := by
  intro j u hu
  rw [add_plain', World.cell?_alloc_at _ _ _ _ rfl, Nat.zero_add, ← Array.getElem?_toList]
  exact hu
theorem own_srcL {w w' : World} {base s n B : Nat} {t : TypeId} {v : Value} {xs : List Value} (h : w.ownsRow base t s v n xs) (hg : w.grownBy w' (some B)) (hB : B < base) : w'.ownsRow base t s v n xs :=
  h.kept hg (.inr (fun e => by have := (h.lt B e).1; omega))
theorem Src.ownL {w w' : World} {B len : Nat} {r : Option Nat} (h : Src w B len) (hg : w.grownBy w' r) (hr : ∀ k, r = some k → B < k) : Src w' B len := by
  obtain ⟨A, cap, at_, seed, hT, h1, h2, h3, h4, hC⟩ := h
  refine ⟨A, cap, at_, seed, (hg.block B hT.lt (fun e => by have := hr B e.symm; omega)).trans hT, h1, h2, h3, h4, fun hp => ?_⟩
  obtain ⟨b, o, hA, hne, hlt, hc⟩ := hC hp
  refine ⟨b, o, hA, hne, Nat.lt_of_lt_of_le hlt hg.size, fun j hj => ?_⟩
  obtain ⟨z, z0, z1, z2⟩ := hc j hj
  exact ⟨z, z0, z1, hg.cell z2 (fun e => by have := hr b e.symm; omega)⟩
theorem grown_ownL {w w1 w2 : World} {B : Nat} {r : Option Nat} (h : w.grownBy w1 (some B)) (hg : w1.grownBy w2 r) (hr : ∀ k, r = some k → w.heap.size ≤ k) : w.grownBy w2 (some B) :=
  ⟨hg.os.trans h.os, hg.tape.trans h.tape, hg.output.trans h.output, Nat.le_trans h.size hg.size, fun k hk hne =>
    (hg.block k (Nat.lt_of_lt_of_le hk h.size) (fun e => by have := hr k e.symm; omega)).trans (h.block k hk hne)⟩
/-- A list of names that is being drawn, in a block from R on. -/
structure LN (w : World) (R B len : Nat) (V : World) (v : Value) (m : Nat) (xs : List Nm) : Prop where
  own : V.ownsRow R 100 5 v m (nmV xs)
  src : Src V B len
  grown : w.grownBy V (some B)
  lt : B < w.heap.size
  small : ∀ x ∈ xs, Small x
  lo : w.heap.size ≤ R
  hi : R ≤ V.heap.size
theorem LN.next {w V V' : World} {R B len m : Nat} {v : Value} {xs : List Nm} (h : LN w R B len V v m xs) (hS : Src V' B len) (hg : V.grownBy V' (some B)) : LN w R B len V' v m xs :=
  ⟨own_srcL h.own hg (Nat.lt_of_lt_of_le h.lt h.lo), hS, h.grown.trans hg, h.lt, h.small, h.lo, Nat.le_trans h.hi hg.size⟩
theorem LN.alloc {w V : World} {R B len m : Nat} {v : Value} {xs : List Nm} (h : LN w R B len V v m xs) (o : Obj) : LN w R B len (V.alloc o) v m xs := h.next (h.src.alloc o) (World.grownBy_alloc V o (some B))
theorem LN.below {w V V' : World} {R B len m : Nat} {v : Value} {xs : List Nm} (h : LN w R B len V v m xs) (hb : Below V.heap.size V V') : LN w R B len V' v m xs :=
  h.next (h.src.ownL (r := none) ⟨hb.os, hb.tape, hb.output, hb.size, fun k hk _ => hb.block k hk⟩ (fun k e => by cases e)) ⟨hb.os, hb.tape, hb.output, hb.size, fun k hk _ => hb.block k hk⟩
theorem LN.form {w V : World} {R B len m : Nat} {v : Value} {xs : List Nm} (h : LN w R B len V v m xs) : ∃ A c, v = .slice A m c ∧ m ≤ c ∧ NmAt V V.heap.size A m xs := by
  rcases h.own.2 with ⟨hv, h0⟩ | ⟨g, cap, cur, hv, _, _, h3, _⟩
  · subst hv; subst h0
    exact ⟨none, 0, rfl, Nat.le_refl _, own_nm h.own⟩
  · subst hv
    exact ⟨_, cap, rfl, h3, own_nm h.own⟩
theorem LN.base {w V : World} {R B len m : Nat} {v : Value} {xs : List Nm} (h : LN w R B len V v m xs) : LN w w.heap.size B len V v m xs := ⟨rowBase h.own h.lo, h.src, h.grown, h.lt, h.small, Nat.le_refl _, h.grown.size⟩
theorem wpList_appN {ops : Array Oper} {rest : List Oper} {o : Oper} {a : Act} {Q : Exit → Act → World → Prop} {w V : World} {R B len m : Nat} {v : Value} {xs : List Nm} {y : Nm} (hL : LN w R B len V v m xs) (hy : Small y) (hgd : o.guard = none) (s x : Operand)
    (ho : o.op = .call { callee := .builtin .append, args := #[s, x], argTypes := #[27, 27] }) (hs : a.eval s = v) (hx : a.eval x = .slice (some ⟨V.heap.size, 0, none⟩) 1 1) (hm : m ≤ 1048576)
    (h : ∀ (g c' : Nat) (w' : World), LN w R B len w' (.slice (some ⟨g, 0, none⟩) (m + 1) c') (m + 1) (xs ++ [y]) → (∀ R0 v0 m0 xs0, LN w R0 B len V v0 m0 xs0 → (∀ k, v0.ownBlock = some k → k < R) → LN w R0 B len w' v0 m0 xs0) → wpList Tryz.prog ops Q rest (a.put o.dst (.slice (some ⟨g, 0, none⟩) (m + 1) c')) w') : wpList Tryz.prog ops Q (o :: rest) a (V.alloc (.cells #[.string y.t, .string y.l, .int .i64 y.s, .int .i64 y.f, .int .i64 y.u] 100)) := by
  obtain ⟨i0, hi0, hz0, hz1, hz2⟩ := info_parts info_nmZ
  refine wpList_append_own _ hgd s x 27 ho R 100 i0 _ 5 56 Tryz.underlying27 hi0 hz0 hz1 hz2 rfl (by decide) v m (nmV xs) hs (hL.own.alloc _) ⟨V.heap.size, 0, none⟩ 1 1 (encN y) hx rfl (five_cellsL V y _) (five_oneL y) (by unfold maxLen; omega) (by omega) (by have := hL.hi; simp; omega) ?_
  intro v' w' h1 h2 _
  rw [← nmV_one, ← nmV_app] at h1
  obtain ⟨g2, c2, rfl, _, _⟩ := h1.form (Nat.succ_pos _)
  have hlo : ∀ k, v.ownBlock = some k → R ≤ k := fun k hk => (hL.own.lt k hk).1
  have hlR := hL.lo
  have hlB := hL.lt
  have hsz := h2.size
  simp at hsz
  have hG : w.grownBy w' (some B) := grown_ownL (hL.grown.trans (World.grownBy_alloc V _ (some B))) h2 (fun k hk => by have := hlo k hk; omega)
  have hSr : Src w' B len := (hL.src.alloc _).ownL h2 (fun k hk => by have := hlo k hk; omega)
  refine h g2 c2 w' ⟨h1, hSr, hG, hL.lt, ?_, hL.lo, by have := hL.hi; omega⟩ ?_
  · intro z hz
    rw [List.mem_append, List.mem_singleton] at hz
    rcases hz with hz | rfl
    · exact hL.small z hz
    · exact hy
  · intro R0 v0 m0 xs0 h0 hk0
    refine ⟨(h0.own.alloc _).kept h2 ?_, hSr, hG, h0.lt, h0.small, h0.lo, by have := h0.hi; omega⟩
    cases h0v : v0.ownBlock with
    | none => exact .inl rfl
    | some k =>
      refine .inr (fun e => ?_)
      have h3 := hlo k e.symm
      have h4 := hk0 k h0v
      omega
/-- append([]Name{}, out...): a copy beside the list. -/
theorem wpList_copN {ops : Array Oper} {rest : List Oper} {o : Oper} {a : Act} {Q : Exit → Act → World → Prop} {w V : World} {R B len m c g : Nat} {xs : List Nm} (hL : LN w R B len V (.slice (some ⟨g, 0, none⟩) m c) m xs) (hgd : o.guard = none) (s x : Operand)
    (ho : o.op = .call { callee := .builtin .append, args := #[s, x], argTypes := #[27, 27] }) (hs : a.eval s = .slice (some ⟨V.heap.size, 0, none⟩) 0 0) (hx : a.eval x = .slice (some ⟨g, 0, none⟩) m c) (hm : m ≤ 1048576)
    (h : ∀ (v' : Value) (w' : World), LN w R B len w' (.slice (some ⟨g, 0, none⟩) m c) m xs → LN w V.heap.size B len w' v' m xs → (∀ k, (Value.slice (some ⟨g, 0, none⟩) m c).ownBlock = some k → k < V.heap.size) → wpList Tryz.prog ops Q rest (a.put o.dst v') w') : wpList Tryz.prog ops Q (o :: rest) a (V.alloc (.cells #[] 100)) := by
  obtain ⟨i0, hi0, hz0, hz1, hz2⟩ := info_parts info_nmZ
  have hba := (Below.refl V.heap.size V).alloc (Nat.le_refl _) (.cells #[] 100)
  have hN := own_nm hL.own
  refine wpList_append_own _ hgd s x 27 ho V.heap.size 100 i0 _ 5 56 Tryz.underlying27 hi0 hz0 hz1 hz2 rfl (by decide) _ 0 [] hs (World.ownsRow_lit (e := 100) (base := V.heap.size) (size := 5) V #[] 0 (Nat.le_refl _) (by decide) rfl) ⟨g, 0, none⟩ m c (nmV xs) hx (by rw [nmV_len, hN.1]) (nm_cellsL (hN.below hba (Nat.le_refl _))) (nm_oneL xs) (by unfold maxLen; omega) (by omega) (by simp) ?_
  intro v' w' h1 h2 _
  rw [List.nil_append, Nat.zero_add] at h1
  have hlo : ∀ k, (Value.slice (some ⟨V.heap.size, 0, none⟩) 0 0).ownBlock = some k → V.heap.size ≤ k := fun k hk => by cases hk; exact Nat.le_refl _
  have hb : Below V.heap.size V w' := hba.grown h2 (by simp) hlo
  have hL2 := hL.below hb
  exact h v' w' hL2 ⟨h1, hL2.src, hL2.grown, hL2.lt, hL.small, hL.grown.size, hb.size⟩ (fun k hk => (hL.own.lt k hk).2)
/-- What is drawn as a list of names. -/
def NlPost (w : World) (B len : Nat) (e : Ending) (w' : World) : Prop :=
  ∃ (v : Value) (m : Nat) (xs : List Nm), e = .returned v ∧ m ≤ 13 ∧ LN w w.heap.size B len w' v m xs
def slLenN : Value → Nat
  | .slice _ n _ => n
  | _ => 0
def ashN : Nm := ⟨⟨#[111, 108, 100, 32, 97, 115, 104]⟩, ⟨#[108, 97, 116]⟩, 2, 1, 9⟩
theorem ashN_small : Small ashN := ⟨by decide, by decide, by decide, by decide, by decide⟩
theorem sz_small {xs : List Nm} (h : ∀ x ∈ xs, Small x) : Sz9 xs := fun e he => by
  have := h e he
  exact ⟨Nat.le_trans this.1 (by omega), Nat.le_trans this.2.1 (by omega)⟩

set_option maxHeartbeats 4000000 in
set_option maxRecDepth 100000 in
theorem cNlD (B len : Nat) (w : World) (hlen : len ≤ 1048576) (h : Src w B len) :
    Calls Tryz.prog 116 #[.pointer (some ⟨B, 0, none⟩)] w (NlPost w B len) := by
  have hlt := h.lt
  have HL1 : Hid (LN w w.heap.size B len (w.alloc (.cells #[] 100)) (.slice (some ⟨w.heap.size, 0, none⟩) 0 0) 0 []) := Lib.hid ⟨World.ownsRow_lit (e := 100) (base := w.heap.size) (size := 5) w #[] 0 (Nat.le_refl _) (by decide) rfl, h.alloc _, World.grownBy_alloc w _ _, hlt, by simp, Nat.le_refl _, by simp⟩
  have CN := Lib.hid (fun (V : World) (n : Int) (hV : Src V B len) (h1 : -1000000000 ≤ n) (h2 : n ≤ 10000000000) => cNext B len n V hlen h1 h2 hV)
  have CD := Lib.hid (fun (V : World) (hV : Src V B len) => cNmD B len V hlen hV)
  clear h
  go_enter Tryz.func116, Tryz.ntmps116
  go_wp2_with fail
  refine (CN.out _ 6 HL1.out.src (by omega) (by omega)).mono ?_
  rintro e w2 ⟨r, hr0, hr1, rfl, hS2, hg2⟩
  have HL2 := Lib.hid (HL1.out.next hS2 hg2)
  obtain ⟨j, rfl⟩ : ∃ j : Nat, r = j := ⟨r.toNat, by omega⟩
  have hj5 : j ≤ 5 := by omega
  clear hS2 hg2 HL1 hr1 hr0
  go_wp2_with fail
  go_loopw [3, 4, 5] (fun ov i nv wr => ∃ (k m g c : Nat) (xs : List Nm) (u : Value), ov = .slice (some ⟨g, 0, none⟩) m c ∧ u = nv ∧ i = .int .i64 k ∧ m + k ≤ 5 ∧ Hid (LN w w.heap.size B len wr (.slice (some ⟨g, 0, none⟩) m c) m xs)) (fun _ i _ _ => (intOf i).toNat)
  case atStart => exact ⟨j, 0, _, 0, [], _, rfl, rfl, rfl, by omega, HL2⟩
  case round =>
    clear HL2 hj5
    obtain ⟨k, m, g, c, xs, u, rfl, rfl, rfl, hmk, HL⟩ := hrel
    by_cases hk : 0 < k
    · obtain ⟨q, rfl⟩ : ∃ q, k = q + 1 := ⟨k - 1, by omega⟩
      have hk2 : (0 : Int) < ((q + 1 : Nat) : Int) := by omega
      go_wp2_with (at_builtin; refine wpList_copN HL.out rfl _ _ rfl rfl rfl (by omega) ?_; intro v3 w3 hl3 hc3 hk3; have HL3 := Lib.hid hl3; have HC3 := Lib.hid hc3; have HK3 := Lib.hid hk3; clear hl3 hc3 hk3)
      refine (CD.out _ HL3.out.src).mono ?_
      rintro e w4 ⟨x, rfl, hx, hS4, g4⟩
      have HL4 := Lib.hid (HL3.out.next hS4 g4)
      have HC4 := Lib.hid (HC3.out.next hS4 g4)
      have HX := Lib.hid hx
      clear hS4 g4 HL3 HC3 HL hx
      go_wp2_with (at_builtin; refine wpList_appN HC4.out HX.out rfl _ _ rfl rfl rfl (by omega) ?_; intro g5 c5 w5 hc5 hk5; have HC5 := Lib.hid hc5; have HL5 := Lib.hid (hk5 _ _ _ _ HL4.out HK3.out); clear hc5 hk5)
      have CA := Lib.hid (cAreN_spec (some ⟨g5, 0, none⟩) (m + 1) c5 (xs ++ [x]) w5 (by omega) (sz_small HC5.out.small) (own_nm HC5.out.own))
      obtain ⟨bz, hbz⟩ : ∃ b, b = namesB (xs ++ [x]) := ⟨_, rfl⟩
      rw [← hbz] at CA
      clear hbz HL4 HC4 HK3
      refine CA.out.mono ?_
      rintro e w6 ⟨rfl, hb6⟩
      have HL6 := Lib.hid (HL5.out.below hb6)
      have HC6 := Lib.hid (HC5.out.below hb6).base
      clear hb6 HL5 HC5 CA
      cases bz
      · go_wp2_with fail
        go_roundw
        case rel => exact ⟨q, m, g, c, xs, _, rfl, rfl, by go_num, by omega, HL6⟩
        case measure => simp [intOf]
      · go_wp2_with fail
        go_roundw
        case rel => exact ⟨q, m + 1, g5, c5, _, _, rfl, rfl, by go_num, by omega, HC6⟩
        case measure => simp [intOf]
    · obtain rfl : k = 0 := by omega
      have hm5 : m ≤ 5 := by omega
      clear hmk hk
      go_wp2_with fail
      refine (CN.out _ 24 HL.out.src (by omega) (by omega)).mono ?_
      rintro e w3 ⟨r, hr0, hr1, rfl, hS3, hg3⟩
      have HL3 := Lib.hid (HL.out.next hS3 hg3)
      clear hS3 hg3 HL hr1
      by_cases h0 : r = 0
      · subst h0
        clear hr0
        go_wp2_with fail
        refine (CD.out _ HL3.out.src).mono ?_
        rintro e w4 ⟨x, rfl, hx, hS4, g4⟩
        have HL4 := Lib.hid (HL3.out.next hS4 g4)
        have HX := Lib.hid hx
        clear hS4 g4 HL3 hx
        go_wp2_with (at_builtin; refine wpList_appN HL4.out HX.out rfl _ _ rfl rfl rfl (by omega) ?_; intro g5 c5 w5 hc5 hk5; have HC5 := Lib.hid hc5; clear hc5 hk5)
        go_ret
        exact ⟨_, m + 1, _, rfl, by omega, HC5.out⟩
      have d0 : (r == 0) = false := by rw [beq_eq_false_iff_ne]; exact h0
      by_cases h1 : r = 1
      · subst h1
        clear hr0
        go_wp2_with fail
        go_loopw [3] (fun ov wr => ∃ (m g c : Nat) (xs : List Nm), ov = .slice (some ⟨g, 0, none⟩) m c ∧ m ≤ 13 ∧ Hid (LN w w.heap.size B len wr (.slice (some ⟨g, 0, none⟩) m c) m xs)) (fun ov _ => 13 - slLenN ov)
        case atStart => exact ⟨m, g, c, xs, rfl, by omega, HL3⟩
        case round =>
          clear HL3 hm5
          obtain ⟨m, g, c, xs, rfl, hm, HL⟩ := hrel
          go_wp2_with fail
          refine (CN.out _ 2 HL.out.src (by omega) (by omega)).mono ?_
          rintro e w4 ⟨y, hy0, hy1, rfl, hS4, hg4⟩
          have HL4 := Lib.hid (HL.out.next hS4 hg4)
          clear hS4 hg4 HL
          have hy2 : y ≤ 1 := by omega
          clear hy1
          by_cases hlt2 : (m : Int) < 12 + y
          · go_wp2_with (at_builtin; refine wpList_appN (y := ashN) HL4.out ashN_small rfl _ _ rfl rfl rfl (by omega) ?_; intro g5 c5 w5 hc5 hk5; have HC5 := Lib.hid hc5; clear hc5 hk5)
            go_roundw
            case rel => exact ⟨m + 1, g5, c5, _, rfl, by omega, HC5⟩
            case measure => simp [slLenN]; omega
          · go_wp2_with fail
            go_ret
            exact ⟨_, m, xs, rfl, hm, HL4.out⟩
      · have d1 : (r == 1) = false := by rw [beq_eq_false_iff_ne]; exact h1
        go_wp2_with fail
        go_ret
        exact ⟨_, m, xs, rfl, by omega, HL3.out⟩
end
section
set_option linter.unusedVariables false
open Go.RowKit

section
variable {α : Type}
theorem set_unique (lt : α → α → Prop) (irr : ∀ a, ¬ lt a a) (tr : ∀ a b c, lt a b → lt b c → lt a c) : ∀ (xs ys : List α), xs.Pairwise lt → ys.Pairwise lt → (∀ x, x ∈ xs ↔ x ∈ ys) → xs = ys
  | [], [], _, _, _ => rfl
  | [], y :: ys, _, _, h => by have := (h y).2 (by simp); simp at this
  | x :: xs, [], _, _, h => by have := (h x).1 (by simp); simp at this
  | x :: xs, y :: ys, hx, hy, h => by
    rw [List.pairwise_cons] at hx hy
    have e : x = y := by
      rcases List.mem_cons.1 ((h x).1 (by simp)) with h1 | h1
      · exact h1
      · rcases List.mem_cons.1 ((h y).2 (by simp)) with h2 | h2
        · exact h2.symm
        · exact absurd (tr _ _ _ (hy.1 x h1) (hx.1 y h2)) (irr y)
    subst e
    congr 1
    refine set_unique lt irr tr xs ys hx.2 hy.2 fun z => ⟨fun hz => ?_, fun hz => ?_⟩
    · rcases List.mem_cons.1 ((h z).1 (List.mem_cons_of_mem _ hz)) with h1 | h1
      · subst h1; exact absurd (hx.1 z hz) (irr z)
      · exact h1
    · rcases List.mem_cons.1 ((h z).2 (List.mem_cons_of_mem _ hz)) with h1 | h1
      · subst h1; exact absurd (hy.1 z hz) (irr z)
      · exact h1
variable [Inhabited α] [DecidableEq α]
theorem compact_set (lt le : α → α → Prop) (h1 : ∀ x a b, le x a → lt a b → lt x b) (h2 : ∀ a b, le a b → a ≠ b → lt a b) (h3 : ∀ a, le a a) (h4 : ∀ a b, lt a b → le a b) (zs : List α) (hs : zs.Pairwise le) :
    (Lib.compact zs).Pairwise lt ∧ ∀ x, x ∈ Lib.compact zs ↔ x ∈ zs := by
  have key : ∀ m, m ≤ zs.length → (Lib.compactUpTo zs.toArray m).Pairwise lt ∧ (∀ x, x ∈ Lib.compactUpTo zs.toArray m ↔ x ∈ zs.take m) ∧ (∀ x ∈ Lib.compactUpTo zs.toArray m, ∀ y, 0 < m → zs[m - 1]? = some y → le x y) := by
    intro m
    induction m with
    | zero => intro _; exact ⟨by simp [Lib.compactUpTo], by simp [Lib.compactUpTo], by simp [Lib.compactUpTo]⟩
    | succ m ih =>
      intro hm
      obtain ⟨i1, i2, i3⟩ := ih (by omega)
      have hml : m < zs.length := by omega
      have hd : zs.toArray[m]! = zs[m] := by simp [getElem!_pos, hml]
      have ht : zs.take (m + 1) = zs.take m ++ [zs[m]] := List.take_succ_eq_append_getElem hml
      rw [Lib.compactUpTo_succ, hd, ht]
      have hg : zs[m + 1 - 1]? = some zs[m] := by simp [hml]
      cases hk : Lib.keeps zs.toArray m
      · have hk2 : ¬ (m = 0 ∨ zs.toArray[m]! ≠ zs.toArray[m - 1]!) := by unfold Lib.keeps at hk; simpa using hk
        have hm0 : ¬ m = 0 := fun e => hk2 (.inl e)
        have hpl : m - 1 < zs.length := by omega
        have he : zs[m] = zs[m - 1] := by
          have h9 : zs.toArray[m]! = zs.toArray[m - 1]! := Classical.byContradiction fun h => hk2 (.inr h)
          rw [hd] at h9
          rw [h9]; simp [getElem!_pos, hpl]
        have hin : zs[m] ∈ zs.take m := by
          rw [he]
          apply List.mem_of_getElem? (i := m - 1)
          rw [List.getElem?_take, if_pos (by omega)]; simp [hpl]
        simp only [Bool.false_eq_true, if_false, List.append_nil]
        refine ⟨i1, fun x => ?_, fun x hx y _ hy => ?_⟩
        · rw [i2, List.mem_append, List.mem_singleton]
          constructor
          · exact .inl
          · rintro (h | h)
            · exact h
            · rw [h]; exact hin
        · rw [hg] at hy
          cases hy
          rw [he]
          exact i3 x hx _ (by omega) (by simp [hpl])
      · have hk2 : m = 0 ∨ zs.toArray[m]! ≠ zs.toArray[m - 1]! := by unfold Lib.keeps at hk; simpa using hk
        have hlt : ∀ x ∈ Lib.compactUpTo zs.toArray m, lt x zs[m] := fun x hx => by
          rcases hk2 with e | hne
          · subst e; have := (i2 x).1 hx; simp at this
          · by_cases hm0 : m = 0
            · subst hm0; have := (i2 x).1 hx; simp at this
            · have hpl : m - 1 < zs.length := by omega
              have hq : zs.toArray[m - 1]! = zs[m - 1] := by simp [getElem!_pos, hpl]
              rw [hd, hq] at hne
              have hle : le zs[m - 1] zs[m] := List.pairwise_iff_getElem.1 hs (m - 1) m hpl hml (by omega)
              exact h1 _ _ _ (i3 x hx _ (by omega) (by simp [hpl])) (h2 _ _ hle (fun e => hne e.symm))
        simp only [if_true]
        refine ⟨?_, fun x => ?_, fun x hx y _ hy => ?_⟩
        · rw [List.pairwise_append]
          exact ⟨i1, by simp, fun a ha b hb => by rw [List.mem_singleton] at hb; subst hb; exact hlt a ha⟩
        · rw [List.mem_append, List.mem_append, i2]
        · rw [hg] at hy
          cases hy
          rw [List.mem_append, List.mem_singleton] at hx
          rcases hx with hx | rfl
          · exact h4 _ _ (hlt x hx)
          · exact h3 _
  obtain ⟨k1, k2, _⟩ := key zs.length (Nat.le_refl _)
  refine ⟨k1, fun x => ?_⟩
  have := k2 x
  rw [List.take_length] at this
  exact this
end

/-- Texts as lists of bytes, and back. -/
def toL (xs : List ByteArray) : List (List UInt8) := xs.map fun s => s.data.toList
def ofL (ls : List (List UInt8)) : List ByteArray := ls.map fun l => ⟨l.toArray⟩
theorem ofL_toL (xs : List ByteArray) : ofL (toL xs) = xs := by
  unfold ofL toL; rw [List.map_map]
  conv => rhs; rw [← List.map_id xs]
  apply List.map_congr_left
  intro x _
  rfl
theorem mem_ofL (ls : List (List UInt8)) (x : ByteArray) : x ∈ ofL ls ↔ x.data.toList ∈ ls := by
  unfold ofL
  rw [List.mem_map]
  constructor
  · rintro ⟨l, hl, rfl⟩; exact hl
  · intro h; exact ⟨_, h, rfl⟩
def ltT (a b : ByteArray) : Prop := a.data.toList < b.data.toList
theorem ltT_irr (a : ByteArray) : ¬ ltT a a := List.lt_irrefl _
theorem ltT_tr (a b c : ByteArray) (h : ltT a b) (k : ltT b c) : ltT a c := List.lt_trans h k
theorem ltT_tri (a b : ByteArray) (h : ¬ ltT a b) (hne : a ≠ b) : ltT b a := by
  unfold ltT at *
  have h1 : b.data.toList ≤ a.data.toList := List.not_lt.1 h
  by_cases h2 : b.data.toList < a.data.toList
  · exact h2
  · exact absurd (ByteArray.ext (Array.toList_inj.1 (List.le_antisymm (List.not_lt.1 h2) h1))) hne
theorem less_dec (a b : ByteArray) : Op.bytesLess a.toList b.toList = decide (a.data.toList < b.data.toList) := by
  rw [bytesLess_eq, ByteArray.toList_eq, ByteArray.toList_eq]

/-- The texts of ys in alphabetical order, each once. -/
def setT (ys : List ByteArray) : List ByteArray := ofL (Lib.compact ((toL ys).mergeSort fun x y => decide (x ≤ y)))
def IsSetT (zs ys : List ByteArray) : Prop := zs.Pairwise ltT ∧ ∀ x, x ∈ zs ↔ x ∈ ys
theorem setT_is (ys : List ByteArray) : IsSetT (setT ys) ys := by
  have hp : ((toL ys).mergeSort fun x y => decide (x ≤ y)).Pairwise fun a b : List UInt8 => a ≤ b := by
    have := List.pairwise_mergeSort (le := fun (x y : List UInt8) => decide (x ≤ y)) (fun a b c h1 h2 => by simp only [decide_eq_true_eq] at *; exact List.le_trans h1 h2) (fun a b => by simp only [Bool.or_eq_true, decide_eq_true_eq]; exact List.le_total a b) (toL ys)
    exact this.imp fun h => by simpa using h
  obtain ⟨h1, h2⟩ := compact_set (fun a b : List UInt8 => a < b) (fun a b => a ≤ b) (fun x a b h k => List.lt_of_le_of_lt h k) (fun a b h hne => by
    by_cases k : a < b
    · exact k
    · exact absurd (List.le_antisymm h (List.not_lt.1 k)) hne) (fun a => List.le_refl a) (fun a b h => List.le_of_lt h) _ hp
  refine ⟨?_, fun x => ?_⟩
  · unfold setT ofL
    rw [List.pairwise_map]
    exact h1
  · unfold setT
    rw [mem_ofL, h2, List.mem_mergeSort]
    unfold toL
    rw [List.mem_map]
    constructor
    · rintro ⟨s, hs, e⟩
      rw [← show s = x from ByteArray.ext (Array.toList_inj.1 e)]; exact hs
    · intro h; exact ⟨x, h, rfl⟩
theorem setT_unique {zs zs' ys : List ByteArray} (h : IsSetT zs ys) (k : IsSetT zs' ys) : zs = zs' := set_unique ltT ltT_irr ltT_tr zs zs' h.1 k.1 fun x => (h.2 x).trans (k.2 x).symm
theorem setT_eq {zs ys : List ByteArray} (h : IsSetT zs ys) : zs = setT ys := setT_unique h (setT_is ys)
theorem setT_len (ys : List ByteArray) : (setT ys).length ≤ ys.length := by
  unfold setT ofL
  rw [List.length_map]
  refine Nat.le_trans (Lib.compact_length_le _) ?_
  rw [List.length_mergeSort]; unfold toL; rw [List.length_map]; exact Nat.le_refl _
theorem setT_nil : setT [] = [] := (setT_eq (ys := []) ⟨List.Pairwise.nil, by simp⟩).symm

/-- What is put into a list at the place k. -/
theorem ins_at {xs ys : List ByteArray} {s : ByteArray} {k : Nat} (h : IsSetT xs ys) (hk : k ≤ xs.length) (h1 : ∀ x ∈ xs.take k, ltT x s) (h2 : ∀ x, xs[k]? = some x → ¬ ltT x s ∧ x ≠ s) : IsSetT (xs.take k ++ [s] ++ xs.drop k) (ys ++ [s]) := by
  have hall : ∀ x ∈ xs.drop k, ltT s x := fun x hx => by
    by_cases hkl : k < xs.length
    · have hy := h2 xs[k] (List.getElem?_eq_getElem hkl)
      have hsy := ltT_tri _ _ hy.1 hy.2
      rw [List.drop_eq_getElem_cons hkl, List.mem_cons] at hx
      rcases hx with rfl | hx
      · exact hsy
      · obtain ⟨j, hj, rfl⟩ := List.mem_iff_getElem.1 hx
        rw [List.length_drop] at hj
        rw [List.getElem_drop]
        exact ltT_tr _ _ _ hsy (List.pairwise_iff_getElem.1 h.1 k (k + 1 + j) hkl (by omega) (by omega))
    · rw [List.drop_of_length_le (by omega)] at hx; simp at hx
  have hsp : xs = xs.take k ++ xs.drop k := (List.take_append_drop k xs).symm
  have hpw := h.1
  rw [hsp, List.pairwise_append] at hpw
  refine ⟨?_, fun x => ?_⟩
  · rw [List.append_assoc, List.pairwise_append]
    refine ⟨hpw.1, ?_, fun a ha b hb => ?_⟩
    · rw [List.singleton_append, List.pairwise_cons]
      exact ⟨hall, hpw.2.1⟩
    · rw [List.singleton_append, List.mem_cons] at hb
      rcases hb with rfl | hb
      · exact h1 a ha
      · exact hpw.2.2 a ha b hb
  · rw [List.mem_append, List.mem_append, List.mem_append, List.mem_singleton, ← h.2 x]
    constructor
    · rintro ((h3 | h3) | h3)
      · exact .inl (List.mem_of_mem_take h3)
      · exact .inr h3
      · exact .inl (List.mem_of_mem_drop h3)
    · rintro (h3 | h3)
      · rw [hsp, List.mem_append] at h3
        rcases h3 with h3 | h3
        · exact .inl (.inl h3)
        · exact .inr h3
      · exact .inl (.inr h3)
theorem ins_in {xs ys : List ByteArray} {s : ByteArray} {k : Nat} (h : IsSetT xs ys) (hk : xs[k]? = some s) : IsSetT xs (ys ++ [s]) :=
  ⟨h.1, fun x => by
    rw [List.mem_append, List.mem_singleton, ← h.2 x]
    constructor
    · exact .inl
    · rintro (h1 | rfl)
      · exact h1
      · exact List.mem_of_getElem? hk⟩

/-- The numbers of ys ascending, each once. -/
def setI (ys : List Int) : List Int := Lib.compact (ys.mergeSort fun x y => decide (x ≤ y))
def IsSetI (zs ys : List Int) : Prop := zs.Pairwise (fun a b : Int => a < b) ∧ ∀ x, x ∈ zs ↔ x ∈ ys
theorem setI_is (ys : List Int) : IsSetI (setI ys) ys := by
  have hp : (ys.mergeSort fun x y => decide (x ≤ y)).Pairwise fun a b : Int => a ≤ b := by
    have := List.pairwise_mergeSort (le := fun (x y : Int) => decide (x ≤ y)) (fun a b c h1 h2 => by simp only [decide_eq_true_eq] at *; omega) (fun a b => by simp only [Bool.or_eq_true, decide_eq_true_eq]; omega) ys
    exact this.imp fun h => by simpa using h
  obtain ⟨h1, h2⟩ := compact_set (fun a b : Int => a < b) (fun a b => a ≤ b) (fun x a b h k => by omega) (fun a b h hne => by omega) (fun a => by omega) (fun a b h => by omega) _ hp
  exact ⟨h1, fun x => by unfold setI; rw [h2, List.mem_mergeSort]⟩
theorem setI_eq {zs ys : List Int} (h : IsSetI zs ys) : zs = setI ys := set_unique (fun a b : Int => a < b) (fun a => by omega) (fun a b c h k => by omega) zs _ h.1 (setI_is ys).1 fun x => (h.2 x).trans ((setI_is ys).2 x).symm
theorem setI_len (ys : List Int) : (setI ys).length ≤ ys.length := by
  unfold setI
  refine Nat.le_trans (Lib.compact_length_le _) ?_
  rw [List.length_mergeSort]; exact Nat.le_refl _
theorem setI_nil : setI [] = [] := (setI_eq (ys := []) ⟨List.Pairwise.nil, by simp⟩).symm
end
end Go.Proofs.YtglmibmjbignbaaGreatDoor
