/-
  The contract of spec.AreNames.
-/
import Derived.Test.YthlilfdndpnbkaaGreatDoorMu12
import Derived.Test.YthlilfdndpnbkaaGreatDoorNmD
import Derived.Test.YthlilfdndpnbkaaGreatDoorMu9
import Derived.Deep.AppendLies
namespace Go.Proofs.YthlilfdndpnbkaaGreatDoor
section
set_option linter.unusedVariables false
open Go.RowKit

theorem cl_s {x y : Nm} (h : ¬ y.s = 0) : clB x y = false := by unfold clB; rw [decide_eq_false h]; simp
theorem cl_l {x y : Nm} (h : ¬ x.l = y.l) : clB x y = false := by unfold clB; rw [decide_eq_false h]; simp
theorem cl_m {x y : Nm} (h1 : x.s = 0) (h2 : y.s = 0) (h3 : x.l = y.l) : clB x y = meetB x.f x.u y.f y.u := by unfold clB; rw [decide_eq_true h1, decide_eq_true h2, decide_eq_true h3]; rfl
theorem cl_step {x : Nm} {y : Nm} {xs : List Nm} {m : Nat} (h : xs[m]? = some y) (ha : ∀ z ∈ xs.take m, clB x z = false) (hc : clB x y = false) : ∀ z ∈ xs.take (m + 1), clB x z = false := by
  rw [take_snoc9 h]; intro z hz; rw [List.mem_append] at hz
  rcases hz with hz | hz
  · exact ha z hz
  · obtain rfl : z = y := by simpa using hz
    exact hc

set_option maxHeartbeats 4000000 in
set_option maxRecDepth 100000 in
theorem cAreN_spec (A : Option Addr) (n c : Nat) (xs : List Nm) (w : World) (hb : n ≤ 1048576) (hz : Sz9 xs) (h : NmAt w w.heap.size A n xs) :
    Calls Tryz.prog 74 #[.slice A n c] w fun e w' => e = .returned (.bool (namesB xs)) ∧ Below w.heap.size w w' := by
  have HN := Lib.hid h.1
  have H := Lib.hid h
  have CC := Lib.hid (fun (x : Nm) (hx : x ∈ xs) W => cIsName_spec x W (by have := (hz x hx).1; omega) (by have := (hz x hx).2; unfold maxLen; omega))
  have CM := Lib.hid (fun (x y : Nm) W => cMeet_spec x.f x.u y.f y.u W)
  clear h hz
  go_enter Tryz.func74, Tryz.ntmps74
  go_wp2_with fail
  go_loopw [3] (fun i wr => ∃ k : Nat, k ≤ n ∧ i = .int .i64 k ∧ Hid (Good (xs.take k)) ∧ Below w.heap.size w wr) (fun i _ => n - (intOf i).toNat)
  case atStart => exact ⟨0, Nat.zero_le _, rfl, Lib.hid (good9_zero xs), Below.refl _ _⟩
  case round =>
    rename World => wo
    obtain ⟨k, hk, rfl, HG, hbw⟩ := hrel
    by_cases hlt : k < n
    · obtain ⟨x, hx⟩ : ∃ x, xs[k]? = some x := ⟨xs[k]'(by have := HN.out; omega), List.getElem?_eq_getElem _⟩
      have HR := (H.out.below hbw (Nat.le_refl _)).row hx
      have HX := Lib.hid hx
      have u1 : (0 : Int) ≤ (k : Int) := Int.natCast_nonneg _
      have u2 : (k : Int) < (n : Int) := by omega
      have CX := Lib.hid (fun W => CC.out x (List.mem_of_getElem? hx) W)
      have KB := Lib.hid (fun W hW => nm_box (w := wo) (W := W) (x := x) (t := 27) hW)
      have hbo := hbw.alloc hbw.size (.cells #[.string x.t, .string x.l, .int .i64 x.s, .int .i64 x.f, .int .i64 x.u] 27)
      obtain ⟨b, o, rfl, hbl, c0, c1, c2, c3, c4⟩ := HR
      have HBO := Lib.hid hbo
      have HBL := Lib.hid (show wo.heap.size < (wo.alloc (.cells #[.string x.t, .string x.l, .int .i64 x.s, .int .i64 x.f, .int .i64 x.u] 27)).heap.size by simp)
      clear hx hbo
      obtain ⟨q, hq⟩ : ∃ q, q = nmB x := ⟨_, rfl⟩
      rw [← hq] at CX
      go_wp2_with fail
      refine (CX.out _).mono ?_
      rintro e w1 ⟨rfl, g1⟩
      have hbt := bstep9 HBO.out HBO.out.size g1
      have HBT := Lib.hid hbt
      have HB1 := Lib.hid g1
      have HL1 := Lib.hid (Nat.lt_of_lt_of_le HBL.out g1.size)
      clear hbt g1 c0 c1 c2 c3 c4 CX
      cases q
      · have HG2 := Lib.hid (names_no (good9_bad HX.out hq.symm))
        clear hq
        go_wp2_with fail
        go_ret
        exact ⟨ret_bool HG2.out.symm, HBT.out⟩
      have HQ := Lib.hid hq
      clear hq
      go_wp2_with fail
      go_loopw [5] (fun i wq => ∃ m : Nat, m ≤ k ∧ i = .int .i64 m ∧ Hid (∀ z ∈ xs.take m, clB x z = false) ∧ Below w1.heap.size w1 wq) (fun i _ => k - (intOf i).toNat)
      case atStart => exact ⟨0, Nat.zero_le _, rfl, Lib.hid (by simp), Below.refl _ _⟩
      case round =>
        obtain ⟨m, hm, rfl, HA, hbq⟩ := hrel
        by_cases hlm : m < k
        · obtain ⟨y, hy⟩ : ∃ y, xs[m]? = some y := ⟨xs[m]'(by have := HN.out; omega), List.getElem?_eq_getElem _⟩
          have hbwq := bstep9 HBT.out HBT.out.size hbq
          obtain ⟨b2, o2, hA, hbl2, d0, d1, d2, d3, d4⟩ := (H.out.below hbwq (Nat.le_refl _)).row hy
          obtain ⟨rfl, rfl⟩ : b = b2 ∧ o = o2 := by injection hA with hA; injection hA with e1 e2; exact ⟨e1, e2⟩
          obtain ⟨k0, k1, k2, k3, k4⟩ := KB.out wr (HB1.out.trans (hbq.mono HB1.out.size))
          have HY := Lib.hid hy
          have u3 : (0 : Int) ≤ (m : Int) := Int.natCast_nonneg _
          have u4 : (m : Int) < (n : Int) := by omega
          have u5 : (m : Int) < (k : Int) := by omega
          have hlw : wo.heap.size < wr.heap.size := Nat.lt_of_lt_of_le HL1.out hbq.size
          have hbb := hbq.alloc hbq.size (.cells #[.string y.t, .string y.l, .int .i64 y.s, .int .i64 y.f, .int .i64 y.u] 27)
          have HBB := Lib.hid hbb
          have HBW := Lib.hid hbwq
          clear hy hA hbb hbwq
          by_cases s1 : x.s = 0
          · have z1 : (x.s == 0) = true := by simp [s1]
            by_cases s2 : y.s = 0
            · have z2 : (y.s == 0) = true := by simp [s2]
              by_cases s3 : x.l = y.l
              · have z3 : (x.l.toList == y.l.toList) = true := by rw [toList_beq]; exact decide_eq_true s3
                have HC := Lib.hid (cl_m s1 s2 s3)
                have CY := Lib.hid (CM.out x y)
                obtain ⟨v, hv⟩ : ∃ v, v = meetB x.f x.u y.f y.u := ⟨_, rfl⟩
                rw [← hv] at HC CY
                clear s1 s2 s3 hv
                go_wp2_with fail
                refine (CY.out _).mono ?_
                rintro e w2 ⟨rfl, g2⟩
                have hb2 := bstep9 HBB.out HBB.out.size g2
                clear g2
                cases v
                · have HA2 := Lib.hid (cl_step HY.out HA.out HC.out)
                  go_wp2_with fail
                  go_roundw
                  case rel => exact ⟨m + 1, by omega, by go_num, HA2, hb2⟩
                  case measure => simp [intOf]; omega
                · have HG2 := Lib.hid (names_no (good9_meet HX.out HY.out hlm HC.out))
                  go_wp2_with fail
                  go_ret
                  exact ⟨ret_bool HG2.out.symm, bstep9 HBT.out HBT.out.size hb2⟩
              · have z3 : (x.l.toList == y.l.toList) = false := by rw [toList_beq]; exact decide_eq_false s3
                have HA2 := Lib.hid (cl_step HY.out HA.out (cl_l s3))
                clear s1 s2 s3
                go_wp2_with fail
                go_roundw
                case rel => exact ⟨m + 1, by omega, by go_num, HA2, HBB.out⟩
                case measure => simp [intOf]; omega
            · have z2 : (y.s == 0) = false := by simp [s2]
              have HA2 := Lib.hid (cl_step HY.out HA.out (cl_s s2))
              clear s1 s2
              go_wp2_with fail
              go_roundw
              case rel => exact ⟨m + 1, by omega, by go_num, HA2, HBB.out⟩
              case measure => simp [intOf]; omega
          · have z1 : (x.s == 0) = false := by simp [s1]
            have HA2 := Lib.hid (cl_step HY.out HA.out (cl_no s1))
            clear s1
            go_wp2_with fail
            go_roundw
            case rel => exact ⟨m + 1, by omega, by go_num, HA2, HBB.out⟩
            case measure => simp [intOf]; omega
        · obtain rfl : m = k := by omega
          have HG2 := Lib.hid (good9_step HX.out HG.out HQ.out.symm HA.out)
          have hb2 := bstep9 HBT.out HBT.out.size hbq
          go_wp2_with fail
          go_roundw
          case rel => exact ⟨m + 1, by omega, by go_num, HG2, hb2⟩
          case measure => simp [intOf]; omega
    · have HG2 := Lib.hid (names_sum n HN.out (good9_end (k := k) (by have := HN.out; omega) HG.out))
      go_wp2_with fail
      go_ret
      exact ⟨ret_bool HG2.out.symm, hbw⟩
end
section
set_option linter.unusedVariables false
open Go.RowKit

theorem info_nmZ : (Tryz.prog.info? 27).map (fun i => (i.zero, i.size, i.bytes)) = some (some (.agg #[.string ByteArray.empty, .string ByteArray.empty, .int .i64 0, .int .i64 0, .int .i64 0]), 5, 56) := by kernel_rfl
theorem nm_cellsL {w : World} {B n : Nat} {b o : Nat} {xs : List Nm} (h : NmAt w B (some ⟨b, o, none⟩) n xs) : ∀ (j : Nat) u, (nmV xs)[j]? = some u → w.cell? ((⟨b, o, none⟩ : Addr).add j) = some u := by
  intro j u hu
  have hj := (List.getElem?_eq_some_iff.1 hu).1
  rw [nmV_len] at hj
  obtain ⟨q, r, rfl, hr⟩ : ∃ q r, j = q * 5 + r ∧ r < 5 := ⟨j / 5, j % 5, by omega, by omega⟩
  have hq : q < xs.length := by omega
  have hx : xs[q]? = some xs[q] := List.getElem?_eq_getElem hq
  obtain ⟨b', o', hA, _, c0, c1, c2, c3, c4⟩ := h.row hx
  obtain ⟨rfl, rfl⟩ : b = b' ∧ o = o' := by injection hA with hA; injection hA with e1 e2; exact ⟨e1, e2⟩
  have hv := nmV_at xs q _ hx
  rw [add_plain']
  match r, hr with
  | 0, _ => rw [show q * 5 + 0 = q * 5 from rfl] at hu ⊢; rw [hv.1] at hu; rw [← Option.some.inj hu]; exact c0
  | 1, _ => rw [hv.2.1] at hu; rw [← Option.some.inj hu]; exact c1
  | 2, _ => rw [hv.2.2.1] at hu; rw [← Option.some.inj hu]; exact c2
  | 3, _ => rw [hv.2.2.2.1] at hu; rw [← Option.some.inj hu]; exact c3
  | 4, _ => rw [hv.2.2.2.2] at hu; rw [← Option.some.inj hu]; exact c4
theorem five_oneL (x : Nm) : ∀ u ∈ encN x, u.oneCell' = true := by
  intro u hu; unfold encN at hu; simp at hu; rcases hu with rfl | rfl | rfl | rfl | rfl <;> rfl
theorem nm_oneL (xs : List Nm) : ∀ u ∈ nmV xs, u.oneCell' = true := fun u hu => by
  unfold nmV at hu
  obtain ⟨x, _, hx⟩ := List.mem_flatMap.1 hu
  exact five_oneL x u hx
theorem five_cellsL (w : World) (x : Nm) (t : TypeId) : ∀ (j : Nat) u, (encN x)[j]? = some u → (w.alloc (.cells #[.string x.t, .string x.l, .int .i64 x.s, .int .i64 x.f, .int .i64 x.u] t)).cell? ((⟨w.heap.size, 0, none⟩ : Addr).add j) = some u := by
  intro j u hu
  rw [add_plain', World.cell?_alloc_at _ _ _ _ rfl, Nat.zero_add, ← Array.getElem?_toList]
  exact hu
theorem own_srcL {w w' : World} {base s n B : Nat} {t : TypeId} {v : Value} {xs : List Value} (h : w.ownsRow base t s v n xs) (hg : w.grownBy w' (some B)) (hB : B < base) : w'.ownsRow base t s v n xs :=
  h.kept hg (.inr (fun e => by have := (h.lt B e).1; omega))
theorem Src.ownL {w w' : World} {B len : Nat} {r : Option Nat} (h : Src w B len) (hg : w.grownBy w' r) (hr : ∀ k, r = some k → B < k) : Src w' B len := by
  obtain ⟨A, cap, at_, seed, hT, h1, h2, h3, h4, hC⟩ := h
  refine ⟨A, cap, at_, seed, (hg.block B hT.lt (fun e => by have := hr B e.symm; omega)).trans hT, h1, h2, h3, h4, fun hp => ?_⟩
  obtain ⟨b, o, hA, hne, hlt, hc⟩ := hC hp
  refine ⟨b, o, hA, hne, Nat.lt_of_lt_of_le hlt hg.size, fun j hj => ?_⟩
  obtain ⟨z, z0, z1, z2⟩ := hc j hj
  exact ⟨z, z0, z1, hg.cell z2 (fun e => by have := hr b e.symm; omega)⟩
theorem grown_ownL {w w1 w2 : World} {B : Nat} {r : Option Nat} (h : w.grownBy w1 (some B)) (hg : w1.grownBy w2 r) (hr : ∀ k, r = some k → w.heap.size ≤ k) : w.grownBy w2 (some B) :=
  ⟨hg.os.trans h.os, hg.tape.trans h.tape, hg.output.trans h.output, Nat.le_trans h.size hg.size, fun k hk hne =>
    (hg.block k (Nat.lt_of_lt_of_le hk h.size) (fun e => by have := hr k e.symm; omega)).trans (h.block k hk hne)⟩
/-- A list of names that is being drawn, in a block from R on. -/
structure LN (w : World) (R B len : Nat) (V : World) (v : Value) (m : Nat) (xs : List Nm) : Prop where
  own : V.ownsRow R 27 5 v m (nmV xs)
  src : Src V B len
  grown : w.grownBy V (some B)
  lt : B < w.heap.size
  small : ∀ x ∈ xs, Small x
  lo : w.heap.size ≤ R
  hi : R ≤ V.heap.size
theorem LN.next {w V V' : World} {R B len m : Nat} {v : Value} {xs : List Nm} (h : LN w R B len V v m xs) (hS : Src V' B len) (hg : V.grownBy V' (some B)) : LN w R B len V' v m xs :=
  ⟨own_srcL h.own hg (Nat.lt_of_lt_of_le h.lt h.lo), hS, h.grown.trans hg, h.lt, h.small, h.lo, Nat.le_trans h.hi hg.size⟩
theorem LN.alloc {w V : World} {R B len m : Nat} {v : Value} {xs : List Nm} (h : LN w R B len V v m xs) (o : Obj) : LN w R B len (V.alloc o) v m xs := h.next (h.src.alloc o) (World.grownBy_alloc V o (some B))
theorem LN.below {w V V' : World} {R B len m : Nat} {v : Value} {xs : List Nm} (h : LN w R B len V v m xs) (hb : Below V.heap.size V V') : LN w R B len V' v m xs :=
  h.next (h.src.ownL (r := none) ⟨hb.os, hb.tape, hb.output, hb.size, fun k hk _ => hb.block k hk⟩ (fun k e => by cases e)) ⟨hb.os, hb.tape, hb.output, hb.size, fun k hk _ => hb.block k hk⟩
theorem LN.form {w V : World} {R B len m : Nat} {v : Value} {xs : List Nm} (h : LN w R B len V v m xs) : ∃ A c, v = .slice A m c ∧ m ≤ c ∧ NmAt V V.heap.size A m xs := by
  rcases h.own.2 with ⟨hv, h0⟩ | ⟨g, cap, cur, hv, _, _, h3, _⟩
  · subst hv; subst h0
    exact ⟨none, 0, rfl, Nat.le_refl _, own_nm h.own⟩
  · subst hv
    exact ⟨_, cap, rfl, h3, own_nm h.own⟩
theorem LN.base {w V : World} {R B len m : Nat} {v : Value} {xs : List Nm} (h : LN w R B len V v m xs) : LN w w.heap.size B len V v m xs := ⟨rowBase h.own h.lo, h.src, h.grown, h.lt, h.small, Nat.le_refl _, h.grown.size⟩
theorem wpList_appN {ops : Array Oper} {rest : List Oper} {o : Oper} {a : Act} {Q : Exit → Act → World → Prop} {w V : World} {R B len m : Nat} {v : Value} {xs : List Nm} {y : Nm} (hL : LN w R B len V v m xs) (hy : Small y) (hgd : o.guard = none) (s x : Operand)
    (ho : o.op = .call { callee := .builtin .append, args := #[s, x], argTypes := #[35, 35] }) (hs : a.eval s = v) (hx : a.eval x = .slice (some ⟨V.heap.size, 0, none⟩) 1 1) (hm : m ≤ 1048576)
    (h : ∀ (g c' : Nat) (w' : World), LN w R B len w' (.slice (some ⟨g, 0, none⟩) (m + 1) c') (m + 1) (xs ++ [y]) → (∀ R0 v0 m0 xs0, LN w R0 B len V v0 m0 xs0 → (∀ k, v0.ownBlock = some k → k < R) → LN w R0 B len w' v0 m0 xs0) → wpList Tryz.prog ops Q rest (a.put o.dst (.slice (some ⟨g, 0, none⟩) (m + 1) c')) w') : wpList Tryz.prog ops Q (o :: rest) a (V.alloc (.cells #[.string y.t, .string y.l, .int .i64 y.s, .int .i64 y.f, .int .i64 y.u] 27)) := by
  obtain ⟨i0, hi0, hz0, hz1, hz2⟩ := info_parts info_nmZ
  refine wpList_append_own _ hgd s x 35 ho R 27 i0 _ 5 56 Tryz.underlying35 hi0 hz0 hz1 hz2 rfl (by decide) v m (nmV xs) hs (hL.own.alloc _) ⟨V.heap.size, 0, none⟩ 1 1 (encN y) hx rfl (five_cellsL V y _) (five_oneL y) (by unfold maxLen; omega) (by omega) (by have := hL.hi; simp; omega) ?_
  intro v' w' h1 h2 _
  rw [← nmV_one, ← nmV_app] at h1
  obtain ⟨g2, c2, rfl, _, _⟩ := h1.form (Nat.succ_pos _)
  have hlo : ∀ k, v.ownBlock = some k → R ≤ k := fun k hk => (hL.own.lt k hk).1
  have hlR := hL.lo
  have hlB := hL.lt
  have hsz := h2.size
  simp at hsz
  have hG : w.grownBy w' (some B) := grown_ownL (hL.grown.trans (World.grownBy_alloc V _ (some B))) h2 (fun k hk => by have := hlo k hk; omega)
  have hSr : Src w' B len := (hL.src.alloc _).ownL h2 (fun k hk => by have := hlo k hk; omega)
  refine h g2 c2 w' ⟨h1, hSr, hG, hL.lt, ?_, hL.lo, by have := hL.hi; omega⟩ ?_
  · intro z hz
    rw [List.mem_append, List.mem_singleton] at hz
    rcases hz with hz | rfl
    · exact hL.small z hz
    · exact hy
  · intro R0 v0 m0 xs0 h0 hk0
    refine ⟨(h0.own.alloc _).kept h2 ?_, hSr, hG, h0.lt, h0.small, h0.lo, by have := h0.hi; omega⟩
    cases h0v : v0.ownBlock with
    | none => exact .inl rfl
    | some k =>
      refine .inr (fun e => ?_)
      have h3 := hlo k e.symm
      have h4 := hk0 k h0v
      omega
/-- append([]Name{}, out...): a copy beside the list. -/
theorem wpList_copN {ops : Array Oper} {rest : List Oper} {o : Oper} {a : Act} {Q : Exit → Act → World → Prop} {w V : World} {R B len m c g : Nat} {xs : List Nm} (hL : LN w R B len V (.slice (some ⟨g, 0, none⟩) m c) m xs) (hgd : o.guard = none) (s x : Operand)
    (ho : o.op = .call { callee := .builtin .append, args := #[s, x], argTypes := #[35, 35] }) (hs : a.eval s = .slice (some ⟨V.heap.size, 0, none⟩) 0 0) (hx : a.eval x = .slice (some ⟨g, 0, none⟩) m c) (hm : m ≤ 1048576)
    (h : ∀ (v' : Value) (w' : World), LN w R B len w' (.slice (some ⟨g, 0, none⟩) m c) m xs → LN w V.heap.size B len w' v' m xs → (∀ k, (Value.slice (some ⟨g, 0, none⟩) m c).ownBlock = some k → k < V.heap.size) → wpList Tryz.prog ops Q rest (a.put o.dst v') w') : wpList Tryz.prog ops Q (o :: rest) a (V.alloc (.cells #[] 27)) := by
  obtain ⟨i0, hi0, hz0, hz1, hz2⟩ := info_parts info_nmZ
  have hba := (Below.refl V.heap.size V).alloc (Nat.le_refl _) (.cells #[] 27)
  have hN := own_nm hL.own
  refine wpList_append_own _ hgd s x 35 ho V.heap.size 27 i0 _ 5 56 Tryz.underlying35 hi0 hz0 hz1 hz2 rfl (by decide) _ 0 [] hs (World.ownsRow_lit (e := 27) (base := V.heap.size) (size := 5) V #[] 0 (Nat.le_refl _) (by decide) rfl) ⟨g, 0, none⟩ m c (nmV xs) hx (by rw [nmV_len, hN.1]) (nm_cellsL (hN.below hba (Nat.le_refl _))) (nm_oneL xs) (by unfold maxLen; omega) (by omega) (by simp) ?_
  intro v' w' h1 h2 _
  rw [List.nil_append, Nat.zero_add] at h1
  have hlo : ∀ k, (Value.slice (some ⟨V.heap.size, 0, none⟩) 0 0).ownBlock = some k → V.heap.size ≤ k := fun k hk => by cases hk; exact Nat.le_refl _
  have hb : Below V.heap.size V w' := hba.grown h2 (by simp) hlo
  have hL2 := hL.below hb
  exact h v' w' hL2 ⟨h1, hL2.src, hL2.grown, hL2.lt, hL.small, hL.grown.size, hb.size⟩ (fun k hk => (hL.own.lt k hk).2)
/-- What is drawn as a list of names. -/
def NlPost (w : World) (B len : Nat) (e : Ending) (w' : World) : Prop :=
  ∃ (v : Value) (m : Nat) (xs : List Nm), e = .returned v ∧ m ≤ 13 ∧ LN w w.heap.size B len w' v m xs
def slLenN : Value → Nat
  | .slice _ n _ => n
  | _ => 0
def ashN : Nm := ⟨⟨#[111, 108, 100, 32, 97, 115, 104]⟩, ⟨#[108, 97, 116]⟩, 2, 1, 9⟩
theorem ashN_small : Small ashN := ⟨by decide, by decide, by decide, by decide, by decide⟩
theorem sz_small {xs : List Nm} (h : ∀ x ∈ xs, Small x) : Sz9 xs := fun e he => by
  have := h e he
  exact ⟨Nat.le_trans this.1 (by omega), Nat.le_trans this.2.1 (by omega)⟩

set_option maxHeartbeats 4000000 in
set_option maxRecDepth 100000 in
theorem cNlD (B len : Nat) (w : World) (hlen : len ≤ 1048576) (h : Src w B len) :
    Calls Tryz.prog 62 #[.pointer (some ⟨B, 0, none⟩)] w (NlPost w B len) := by
  have hlt := h.lt
  have HL1 : Hid (LN w w.heap.size B len (w.alloc (.cells #[] 27)) (.slice (some ⟨w.heap.size, 0, none⟩) 0 0) 0 []) := Lib.hid ⟨World.ownsRow_lit (e := 27) (base := w.heap.size) (size := 5) w #[] 0 (Nat.le_refl _) (by decide) rfl, h.alloc _, World.grownBy_alloc w _ _, hlt, by simp, Nat.le_refl _, by simp⟩
  have CN := Lib.hid (fun (V : World) (n : Int) (hV : Src V B len) (h1 : -1000000000 ≤ n) (h2 : n ≤ 10000000000) => cNext B len n V hlen h1 h2 hV)
  have CD := Lib.hid (fun (V : World) (hV : Src V B len) => cNmD B len V hlen hV)
  clear h
  go_enter Tryz.func62, Tryz.ntmps62
  go_wp2_with fail
  refine (CN.out _ 6 HL1.out.src (by omega) (by omega)).mono ?_
  rintro e w2 ⟨r, hr0, hr1, rfl, hS2, hg2⟩
  have HL2 := Lib.hid (HL1.out.next hS2 hg2)
  obtain ⟨j, rfl⟩ : ∃ j : Nat, r = j := ⟨r.toNat, by omega⟩
  have hj5 : j ≤ 5 := by omega
  clear hS2 hg2 HL1 hr1 hr0
  go_wp2_with fail
  go_loopw [3, 4, 5] (fun ov i nv wr => ∃ (k m g c : Nat) (xs : List Nm) (u : Value), ov = .slice (some ⟨g, 0, none⟩) m c ∧ u = nv ∧ i = .int .i64 k ∧ m + k ≤ 5 ∧ Hid (LN w w.heap.size B len wr (.slice (some ⟨g, 0, none⟩) m c) m xs)) (fun _ i _ _ => (intOf i).toNat)
  case atStart => exact ⟨j, 0, _, 0, [], _, rfl, rfl, rfl, by omega, HL2⟩
  case round =>
    clear HL2 hj5
    obtain ⟨k, m, g, c, xs, u, rfl, rfl, rfl, hmk, HL⟩ := hrel
    by_cases hk : 0 < k
    · obtain ⟨q, rfl⟩ : ∃ q, k = q + 1 := ⟨k - 1, by omega⟩
      have hk2 : (0 : Int) < ((q + 1 : Nat) : Int) := by omega
      go_wp2_with (at_builtin; refine wpList_copN HL.out rfl _ _ rfl rfl rfl (by omega) ?_; intro v3 w3 hl3 hc3 hk3; have HL3 := Lib.hid hl3; have HC3 := Lib.hid hc3; have HK3 := Lib.hid hk3; clear hl3 hc3 hk3)
      refine (CD.out _ HL3.out.src).mono ?_
      rintro e w4 ⟨x, rfl, hx, hS4, g4⟩
      have HL4 := Lib.hid (HL3.out.next hS4 g4)
      have HC4 := Lib.hid (HC3.out.next hS4 g4)
      have HX := Lib.hid hx
      clear hS4 g4 HL3 HC3 HL hx
      go_wp2_with (at_builtin; refine wpList_appN HC4.out HX.out rfl _ _ rfl rfl rfl (by omega) ?_; intro g5 c5 w5 hc5 hk5; have HC5 := Lib.hid hc5; have HL5 := Lib.hid (hk5 _ _ _ _ HL4.out HK3.out); clear hc5 hk5)
      have CA := Lib.hid (cAreN_spec (some ⟨g5, 0, none⟩) (m + 1) c5 (xs ++ [x]) w5 (by omega) (sz_small HC5.out.small) (own_nm HC5.out.own))
      obtain ⟨bz, hbz⟩ : ∃ b, b = namesB (xs ++ [x]) := ⟨_, rfl⟩
      rw [← hbz] at CA
      clear hbz HL4 HC4 HK3
      refine CA.out.mono ?_
      rintro e w6 ⟨rfl, hb6⟩
      have HL6 := Lib.hid (HL5.out.below hb6)
      have HC6 := Lib.hid (HC5.out.below hb6).base
      clear hb6 HL5 HC5 CA
      cases bz
      · go_wp2_with fail
        go_roundw
        case rel => exact ⟨q, m, g, c, xs, _, rfl, rfl, by go_num, by omega, HL6⟩
        case measure => simp [intOf]
      · go_wp2_with fail
        go_roundw
        case rel => exact ⟨q, m + 1, g5, c5, _, _, rfl, rfl, by go_num, by omega, HC6⟩
        case measure => simp [intOf]
    · obtain rfl : k = 0 := by omega
      have hm5 : m ≤ 5 := by omega
      clear hmk hk
      go_wp2_with fail
      refine (CN.out _ 24 HL.out.src (by omega) (by omega)).mono ?_
      rintro e w3 ⟨r, hr0, hr1, rfl, hS3, hg3⟩
      have HL3 := Lib.hid (HL.out.next hS3 hg3)
      clear hS3 hg3 HL hr1
      by_cases h0 : r = 0
      · subst h0
        clear hr0
        go_wp2_with fail
        refine (CD.out _ HL3.out.src).mono ?_
        rintro e w4 ⟨x, rfl, hx, hS4, g4⟩
        have HL4 := Lib.hid (HL3.out.next hS4 g4)
        have HX := Lib.hid hx
        clear hS4 g4 HL3 hx
        go_wp2_with (at_builtin; refine wpList_appN HL4.out HX.out rfl _ _ rfl rfl rfl (by omega) ?_; intro g5 c5 w5 hc5 hk5; have HC5 := Lib.hid hc5; clear hc5 hk5)
        go_ret
        exact ⟨_, m + 1, _, rfl, by omega, HC5.out⟩
      have d0 : (r == 0) = false := by rw [beq_eq_false_iff_ne]; exact h0
      by_cases h1 : r = 1
      · subst h1
        clear hr0
        go_wp2_with fail
        go_loopw [3] (fun ov wr => ∃ (m g c : Nat) (xs : List Nm), ov = .slice (some ⟨g, 0, none⟩) m c ∧ m ≤ 13 ∧ Hid (LN w w.heap.size B len wr (.slice (some ⟨g, 0, none⟩) m c) m xs)) (fun ov _ => 13 - slLenN ov)
        case atStart => exact ⟨m, g, c, xs, rfl, by omega, HL3⟩
        case round =>
          clear HL3 hm5
          obtain ⟨m, g, c, xs, rfl, hm, HL⟩ := hrel
          go_wp2_with fail
          refine (CN.out _ 2 HL.out.src (by omega) (by omega)).mono ?_
          rintro e w4 ⟨y, hy0, hy1, rfl, hS4, hg4⟩
          have HL4 := Lib.hid (HL.out.next hS4 hg4)
          clear hS4 hg4 HL
          have hy2 : y ≤ 1 := by omega
          clear hy1
          by_cases hlt2 : (m : Int) < 12 + y
          · go_wp2_with (at_builtin; refine wpList_appN (y := ashN) HL4.out ashN_small rfl _ _ rfl rfl rfl (by omega) ?_; intro g5 c5 w5 hc5 hk5; have HC5 := Lib.hid hc5; clear hc5 hk5)
            go_roundw
            case rel => exact ⟨m + 1, g5, c5, _, rfl, by omega, HC5⟩
            case measure => simp [slLenN]; omega
          · go_wp2_with fail
            go_ret
            exact ⟨_, m, xs, rfl, hm, HL4.out⟩
      · have d1 : (r == 1) = false := by rw [beq_eq_false_iff_ne]; exact h1
        go_wp2_with fail
        go_ret
        exact ⟨_, m, xs, rfl, by omega, HL3.out⟩
end
end Go.Proofs.YthlilfdndpnbkaaGreatDoor
