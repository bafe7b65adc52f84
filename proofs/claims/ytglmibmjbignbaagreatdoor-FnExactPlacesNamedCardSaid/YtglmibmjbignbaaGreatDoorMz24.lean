/-
  The contracts of slices.Sort and slices.Compact at texts and at numbers of one's own, and of spec.l08Insert.
-/
import Derived.Test.YtglmibmjbignbaaGreatDoorMz7
import Derived.Test.YtglmibmjbignbaaGreatDoorShelfT
import Derived.Test.YtglmibmjbignbaaGreatDoorIntRow
import Derived.Test.YtglmibmjbignbaaGreatDoorMz3
import Derived.Deep.RegionLaw
import Derived.Deep.AppendLies
import Derived.Deep.QuietTactic
import Derived.BigQuiet
import Derived.Shelf.SortG.Plain
import Derived.Test.YtglmibmjbignbaaGreatDoorMz23
import Derived.Test.YtglmibmjbignbaaGreatDoorMz20
import Derived.Test.YtglmibmjbignbaaGreatDoorMz21
import Derived.Test.YtglmibmjbignbaaGreatDoorMz4
namespace Go.Proofs.YtglmibmjbignbaaGreatDoor
section
set_option linter.unusedVariables false
open Go.RowKit Go.Sort

theorem toList_beq' (a b : ByteArray) : (a.toList == b.toList) = decide (a = b) := by
  by_cases h : a = b
  · simp [h]
  · rw [decide_eq_false h, beq_eq_false_iff_ne]
    intro e
    rw [ByteArray.toList_eq, ByteArray.toList_eq] at e
    exact h (ByteArray.ext (Array.toList_inj.1 e))
theorem take_snocT {xs : List ByteArray} {k : Nat} {x : ByteArray} (h : xs[k]? = some x) : xs.take (k + 1) = xs.take k ++ [x] := by
  have hk : k < xs.length := (List.getElem?_eq_some_iff.1 h).1
  have hx : xs[k] = x := (List.getElem?_eq_some_iff.1 h).2
  rw [List.take_succ_eq_append_getElem hk, hx]
theorem strV_toL (xs : List ByteArray) : strV xs = (toL xs).map encStr := by
  unfold strV toL; rw [List.map_map]
  apply List.map_congr_left
  intro x _
  rfl
theorem strV_ofL (ls : List (List UInt8)) : strV (ofL ls) = ls.map encStr := by
  unfold strV ofL; rw [List.map_map]
  apply List.map_congr_left
  intro x _
  rfl
theorem toL_len (xs : List ByteArray) : (toL xs).length = xs.length := by simp [toL]
theorem own_prefix {w : World} {base g n cap m s : Nat} {e : TypeId} {xs : List Value} (h : w.ownsRow base e s (.slice (some ⟨g, 0, none⟩) n cap) n xs) (hm : m ≤ n) :
    w.ownsRow base e s (.slice (some ⟨g, 0, none⟩) m cap) m (xs.take (m * s)) := by
  rcases h.2 with ⟨hv, _⟩ | ⟨g', cap', cur, hv, h1, h2, h3, h4, h5, h6⟩
  · cases hv
  · cases hv
    have hle : m * s ≤ n * s := Nat.mul_le_mul_right _ hm
    refine ⟨by rw [List.length_take]; have := h.1; omega, .inr ⟨g, cap, cur, rfl, h1, h2, by omega, h4, h5, ?_⟩⟩
    rw [← h6, List.take_take, Nat.min_eq_left hle]

def SortedT (A : Option Addr) (n c base : Nat) (xs : List ByteArray) (w : World) (e : Ending) (w' : World) : Prop :=
  e = .returned (.tuple #[]) ∧ w'.ownsRow base 9 1 (.slice A n c) n (strV (ofL ((toL xs).mergeSort fun x y => decide (x ≤ y)))) ∧ w.grownBy w' (Value.slice A n c).ownBlock
theorem tSortT (A : Option Addr) (n c base : Nat) (xs : List ByteArray) (w : World) (hbig : n ≤ 1048576) (h : w.ownsRow base 9 1 (.slice A n c) n (strV xs)) :
    Calls Tryz.prog 76 #[.slice A n c] w (SortedT A n c base xs w) := by
  have hl : n = (toL xs).length := by have := h.1; rw [strV_len] at this; rw [toL_len]; omega
  rcases Nat.eq_zero_or_pos n with rfl | hp
  · have h1 := AnyG.slices_Sort_string_none Tryz.sortT A c w
    change Calls Tryz.prog 76 _ _ _ at h1
    refine h1.mono ?_
    rintro e w' ⟨rfl, rfl⟩
    have hx : toL xs = [] := List.eq_nil_of_length_eq_zero hl.symm
    have hx2 : xs = [] := by have := congrArg List.length hx; rw [toL_len] at this; exact List.eq_nil_of_length_eq_zero this
    subst hx2
    exact ⟨rfl, by rw [show ofL ((toL ([] : List ByteArray)).mergeSort fun x y => decide (x ≤ y)) = [] from by simp [toL, ofL]]; exact h, World.grownBy.refl _ _⟩
  · rcases h.2 with ⟨_, h0⟩ | ⟨g, cap, cur, hv, h1, h2, h3, h4, h5, h6⟩
    · omega
    cases hv
    rw [strV_toL, Nat.mul_one] at h6
    have hH := holds_of_block (ss := toL xs) h2 (by rw [← hl]; exact h6)
    have k := AnyG.slices_Sort_string Tryz.sortT g 0 c (toL xs) w hH (Array.getElem?_eq_some_iff.1 h2).1 (by omega)
    rw [← hl] at k
    change Calls Tryz.prog 76 _ _ _ at k
    refine k.mono ?_
    rintro e w' ⟨rfl, q, os, rfl⟩
    have ho := ownsRow_sorted (n := q) (os := os) (ss := toL xs) (ts := (toL xs).mergeSort fun x y => decide (x ≤ y)) (List.length_mergeSort ..) h1 h2 (by omega) h4 h5
    rw [← hl] at ho
    rw [← strV_ofL] at ho
    exact ⟨rfl, ho, grownBy_sorted _⟩
def CompT (A : Option Addr) (n c base : Nat) (xs : List ByteArray) (w : World) (e : Ending) (w' : World) : Prop :=
  ∃ m, e = .returned (.slice A m c) ∧ w'.ownsRow base 9 1 (.slice A m c) m (strV (ofL (Lib.compact (toL xs)))) ∧ w.grownBy w' (Value.slice A n c).ownBlock
theorem tCompT (A : Option Addr) (n c base : Nat) (xs : List ByteArray) (w : World) (hbig : n ≤ 1048576) (h : w.ownsRow base 9 1 (.slice A n c) n (strV xs)) :
    Calls Tryz.prog 77 #[.slice A n c] w (CompT A n c base xs w) := by
  have hl : n = (toL xs).length := by have := h.1; rw [strV_len] at this; rw [toL_len]; omega
  rcases Nat.eq_zero_or_pos n with rfl | hp
  · refine (Tryz.slices_Compact_string_empty A c w).mono ?_
    rintro e w' ⟨rfl, rfl⟩
    have hx : toL xs = [] := List.eq_nil_of_length_eq_zero hl.symm
    have hx2 : xs = [] := by have := congrArg List.length hx; rw [toL_len] at this; exact List.eq_nil_of_length_eq_zero this
    subst hx2
    exact ⟨0, rfl, h, World.grownBy.refl _ _⟩
  · rcases h.2 with ⟨_, h0⟩ | ⟨g, cap, cur, hv, h1, h2, h3, h4, h5, h6⟩
    · omega
    cases hv
    rw [strV_toL, Nat.mul_one] at h6
    have hH := holds_of_block (ss := toL xs) h2 (by rw [← hl]; exact h6)
    have k := Tryz.slices_Compact_string g 0 c (toL xs) w hH (by omega) (by omega)
    rw [← hl] at k
    refine k.mono ?_
    rintro e w' ⟨rfl, q, rfl⟩
    have hcl := Lib.compact_length_le (toL xs)
    have ho := ownsRow_sorted (n := q) (os := #[]) (ss := toL xs) (ts := Lib.compact (toL xs) ++ List.replicate ((toL xs).length - (Lib.compact (toL xs)).length) []) (by rw [List.length_append, List.length_replicate]; omega) h1 h2 (by omega) h4 h5
    rw [grow_empty, ← hl] at ho
    have hp := own_prefix (m := (Lib.compact (toL xs)).length) ho (by omega)
    rw [Nat.mul_one, ← List.map_take, List.take_left, ← strV_ofL] at hp
    have hg := grownBy_sorted (w := w) (g := g) (n := q) (os := #[]) (Lib.compact (toL xs) ++ List.replicate ((toL xs).length - (Lib.compact (toL xs)).length) []).toArray
    rw [grow_empty, ← hl] at hg
    exact ⟨_, rfl, hp, hg⟩
def SortedI (A : Option Addr) (n c base : Nat) (xs : List Int) (w : World) (e : Ending) (w' : World) : Prop :=
  e = .returned (.tuple #[]) ∧ w'.ownsRow base 2 1 (.slice A n c) n (intV (xs.mergeSort fun x y => decide (x ≤ y))) ∧ w.grownBy w' (Value.slice A n c).ownBlock
def CompI (A : Option Addr) (n c base : Nat) (xs : List Int) (w : World) (e : Ending) (w' : World) : Prop :=
  ∃ m, e = .returned (.slice A m c) ∧ w'.ownsRow base 2 1 (.slice A m c) m (intV (Lib.compact xs)) ∧ w.grownBy w' (Value.slice A n c).ownBlock
end
section
set_option linter.unusedVariables false
open Go.RowKit

theorem grown_own11 {w a b : World} {row : Option Nat} (h : Below w.heap.size w a) (hg : a.grownBy b row) (hr : ∀ k, row = some k → w.heap.size ≤ k) : Below w.heap.size w b := h.grown hg h.size hr
theorem toL_ofL11 (ls : List (List UInt8)) : toL (ofL ls) = ls := by
  unfold toL ofL; rw [List.map_map]
  conv => rhs; rw [← List.map_id ls]
  apply List.map_congr_left
  intro x _
  rfl
set_option maxHeartbeats 2000000 in
set_option maxRecDepth 100000 in
theorem cTexts (A : Option Addr) (n c : Nat) (xs : List Nm) (y : Int) (w : World) (hb : n ≤ 1048576) (h : NmAt w w.heap.size A n xs) :
    Calls Tryz.prog 75 #[.slice A n c, .int .i64 y] w (RowT11 (setT (txU xs y)) w) := by
  obtain ⟨i0, hi0, hz0, hz1, hz2⟩ := info_parts info_strW
  have H := Lib.hid h
  have HN := Lib.hid h.1
  have CU := Lib.hid (fun x W => cUsed1 x y W)
  clear h
  go_enter Tryz.func75, Tryz.ntmps75
  go_wp2_with fail
  go_loopw [5, 10] (fun o i wr => ∃ (k m d : Nat) (B : Option Addr), k ≤ n ∧ i = .int .i64 k ∧ o = .slice B m d ∧ Hid (m ≤ k) ∧ Hid (wr.ownsRow w.heap.size 9 1 (.slice B m d) m (strV (txU (xs.take k) y))) ∧ Below w.heap.size w wr) (fun _ i _ => n - (intOf i).toNat)
  case atStart => exact ⟨0, 0, 0, none, Nat.zero_le _, rfl, rfl, Lib.hid (Nat.le_refl _), Lib.hid (World.ownsRow_nil _ _ _ _), Below.refl _ _⟩
  case round =>
    obtain ⟨k, m, d, B, hk, rfl, rfl, HM, HO, hbw⟩ := hrel
    by_cases hlt : k < n
    · obtain ⟨x, hx⟩ : ∃ x, xs[k]? = some x := ⟨xs[k]'(by have := HN.out; omega), List.getElem?_eq_getElem _⟩
      obtain ⟨b, o, rfl, hbl, c0, c1, c2, c3, c4⟩ := (H.out.below hbw (Nat.le_refl _)).row hx
      have hb1 := hbw.alloc hbw.size (.cells #[.string x.t, .string x.l, .int .i64 x.s, .int .i64 x.f, .int .i64 x.u] 100)
      have HB := Lib.hid hb1
      have HX := Lib.hid hx
      have CX := Lib.hid (fun W => CU.out x W)
      have HO1 := Lib.hid (HO.out.alloc (.cells #[.string x.t, .string x.l, .int .i64 x.s, .int .i64 x.f, .int .i64 x.u] 100))
      have u1 : (0 : Int) ≤ (k : Int) := Int.natCast_nonneg _
      have u2 : (k : Int) < (n : Int) := by omega
      have HK1 : Hid (NmCell (wr.alloc (.cells #[.string x.t, .string x.l, .int .i64 x.s, .int .i64 x.f, .int .i64 x.u] 100)) wr.heap.size 0 x) := Lib.hid (nm_new wr x _)
      clear hx hb1
      cases hf : usB x y
      · rw [hf] at CX
        have HST := Lib.hid (txU_no HX.out hf)
        clear hf
        go_wp2_with fail
        refine (CX.out _).mono ?_
        rintro e w2 ⟨rfl, hb2⟩
        have hbt := bstep9 HB.out HB.out.size hb2
        have HO2 : Hid (w2.ownsRow w.heap.size 9 1 (.slice B m d) m (strV (txU (xs.take (k + 1)) y))) := Lib.hid (by rw [HST.out]; exact keptW HO1.out hb2)
        clear hb2
        go_wp2_with fail
        go_roundw
        case rel => exact ⟨k + 1, m, d, B, by omega, by go_num, rfl, Lib.hid (by have := HM.out; omega), HO2, hbt⟩
        case measure => simp [intOf]; omega
      · rw [hf] at CX
        have HST := Lib.hid (txU_yes HX.out hf)
        clear hf
        go_wp2_with fail
        refine (CX.out _).mono ?_
        rintro e w2 ⟨rfl, hb2⟩
        have hbt := bstep9 HB.out HB.out.size hb2
        have hown := keptW HO1.out hb2
        have hmk := HM.out
        have q0 := (HK1.out.below hb2 (by simp)).1
        clear hb2
        go_wp2_with (at_builtin; refine wpList_append_own _ rfl _ _ 38 rfl w.heap.size 9 i0 _ 1 16 Tryz.underlying38 hi0 hz0 hz1 hz2 rfl (by decide) _ _ _ rfl (hown.alloc _) ⟨w2.heap.size, 0, none⟩ 1 1 [.string x.t] rfl rfl ?d1 ?d2 ?d3 ?d4 ?d5 ?_)
        case d1 => exact one_cell' _ _ _ (new_one _ _ _)
        case d2 => intro u hu; simp at hu; subst hu; rfl
        case d3 => unfold maxLen; omega
        case d4 => omega
        case d5 => have := hbt.size; simp; omega
        intro v' w3 hown3 hgrow3 _
        rw [strV_snocW] at hown3
        have hb3 : Below w.heap.size w w3 := (hbt.alloc hbt.size _).grown hgrow3 (by have := hbt.size; simp; omega) (fun x hx => (hown.lt x hx).1)
        have HO3 : Hid (w3.ownsRow w.heap.size 9 1 v' (m + 1) (strV (txU (xs.take (k + 1)) y))) := Lib.hid (by rw [HST.out]; exact hown3)
        obtain ⟨g', c', rfl, _, _⟩ := World.ownsRow.form HO3.out (by omega)
        clear hown3 hown hgrow3 q0
        go_wp2_with fail
        go_roundw
        case rel => exact ⟨k + 1, m + 1, c', some ⟨g', 0, none⟩, by omega, by go_num, rfl, Lib.hid (by omega), HO3, hb3⟩
        case measure => simp [intOf]; omega
    · have HF : Hid (wr.ownsRow w.heap.size 9 1 (.slice B m d) m (strV (txU xs y))) := Lib.hid (by have := HO.out; rwa [List.take_of_length_le (by have := HN.out; omega)] at this)
      have hm : m ≤ 1048576 := by have := HM.out; omega
      have CS := Lib.hid (tSortT B m d w.heap.size (txU xs y) wr hm HF.out)
      clear HO
      go_wp2_with fail
      refine CS.out.mono ?_
      rintro e w2 ⟨rfl, hown2, hg2⟩
      have hb2 := grown_own11 hbw hg2 (fun k hk => (HF.out.lt k hk).1)
      have CC := Lib.hid (tCompT B m d w.heap.size _ w2 hm hown2)
      have HO2 := Lib.hid hown2
      clear hg2 hown2
      go_wp2_with fail
      refine CC.out.mono ?_
      rintro e w3 ⟨m3, rfl, hown3, hg3⟩
      have hb3 := grown_own11 hb2 hg3 (fun k hk => (HO2.out.lt k hk).1)
      rw [toL_ofL11] at hown3
      have HO3 := Lib.hid hown3
      clear hg3 hown3
      go_wp2_with fail
      go_ret
      exact ⟨B, m3, d, rfl, HO3.out, hb3⟩
end
section
set_option linter.unusedVariables false
open Go.RowKit

set_option maxHeartbeats 4000000 in
set_option maxRecDepth 100000 in
theorem cL11Has (p : Pl) (A : Option Addr) (d : Nat) (t : ByteArray) (y : Int) (w : World) (hb : p.ns.length ≤ 1048576) (h : NmAt w w.heap.size A p.ns.length p.ns) :
    Calls Tryz.prog 78 #[plv11 p A d, .string t, .int .i64 y] w fun e w' => e = .returned (.bool (hasT11 p.ns y t)) ∧ Below w.heap.size w w' := by
  unfold plv11
  obtain ⟨W0, hW0⟩ : ∃ W0 : World, W0 = w.alloc (.cells #[.string p.c, .int .i64 p.k, .int .i64 p.f, .int .i64 p.u, .slice A p.ns.length d] 29) := ⟨_, rfl⟩
  have hA : Below w.heap.size w W0 := by rw [hW0]; exact below_alloc11 _ _
  have HA := Lib.hid hA
  have HX : Hid (Bx W0 w.heap.size [.string p.c, .int .i64 p.k, .int .i64 p.f, .int .i64 p.u, .slice A p.ns.length d]) := Lib.hid (by rw [hW0]; exact Bx.new w _ _)
  have hn := h.grow hA
  have CU := Lib.hid (cL09Used A p.ns.length d p.ns y W0 hb hn)
  have H := Lib.hid hn
  have HW0 := Lib.hid hW0
  have f0 := HX.out.five.2.2.2.2.1
  clear h hA hn hW0
  go_enter Tryz.func78, Tryz.ntmps78
  go_wp2_with fail
  rw [← HW0.out]
  refine CU.out.mono ?_
  rintro e w1 ⟨U, m, du, rfl, hown, hb1⟩
  have hU := own_num hown
  have HM : Hid (m = (usP p.ns y p.ns.length).length) := Lib.hid hU.1
  have hm9 : m ≤ 1048576 := by have h1 := hU.1; have h2 := usP_len p.ns y p.ns.length; omega
  have HU := Lib.hid hU
  have HME : Hid (∀ (j : Nat) v, (usP p.ns y p.ns.length)[j]? = some v → ∃ (i : Nat) (x : Nm), v = (i : Int) ∧ i < p.ns.length ∧ p.ns[i]? = some x ∧ usB x y = true) := Lib.hid (fun j v hj => by
    obtain ⟨i, x, h1, h2, h3⟩ := usP_mem p.ns y p.ns.length v (List.mem_of_getElem? hj)
    exact ⟨i, x, h1, h2, h3⟩)
  have HB1 := Lib.hid hb1
  obtain ⟨u, hu⟩ : ∃ u, u = usP p.ns y p.ns.length := ⟨_, rfl⟩
  rw [← hu] at HM HU HME
  have HUU := Lib.hid hu
  clear hown hU hb1 hu f0
  go_wp2_with fail
  go_loopw [8] (fun i wr => ∃ k : Nat, k ≤ m ∧ i = .int .i64 k ∧ Hid (∀ (j : Nat) (v : Int) (i : Nat) (x : Nm), j < k → u[j]? = some v → v = ((i : Nat) : Int) → p.ns[i]? = some x → x.t ≠ t) ∧ Below w1.heap.size w1 wr) (fun i _ => m - (intOf i).toNat)
  case atStart => exact ⟨0, Nat.zero_le _, rfl, Lib.hid (fun j v i x hj => by omega), Below.refl _ _⟩
  case round =>
    obtain ⟨k, hk, rfl, HC, hbr⟩ := hrel
    by_cases hlt : k < m
    · obtain ⟨v, hv⟩ : ∃ v, u[k]? = some v := ⟨u[k]'(by have := HM.out; omega), List.getElem?_eq_getElem _⟩
      obtain ⟨i, x, rfl, hi, hx, hus⟩ := HME.out k v hv
      have hbw := bstep9 HB1.out HB1.out.size hbr
      have HR := Lib.hid ((H.out.below hbw (Nat.le_refl _)))
      obtain ⟨b, o, rfl, hbl, c0, c1, c2', c3, c4⟩ := HR.out.row hx
      obtain ⟨b2, o2, rfl, hbl2, d0⟩ := numAt_row9 (HU.out.below hbr (Nat.le_refl _)) hv
      have f4 := (HX.out.next hbw).five.2.2.2.2.1
      have u3 : (0 : Int) ≤ (k : Int) := Int.natCast_nonneg _
      have u4 : (k : Int) < (m : Int) := by omega
      have u5 : (0 : Int) ≤ (i : Int) := Int.natCast_nonneg _
      have u6 : (i : Int) < (p.ns.length : Int) := by omega
      by_cases e : x.t = t
      · have z2 : (x.t.toList == t.toList) = true := by rw [toList_beq]; exact decide_eq_true e
        have HF : Hid (hasT11 p.ns y t = true) := Lib.hid (by rw [← e]; exact has_yes hx hus)
        have HBE := Lib.hid (bstep9 HA.out HA.out.size hbw)
        clear e hx hus hv hbw HC
        go_wp2_with fail
        first | done | (go_quiet (fail); go_wp2_with fail) | skip
        go_ret
        exact ⟨by rw [HF.out]; rfl, by first | exact HBE.out | exact below_drN_r HBE.out _⟩
      · have z2 : (x.t.toList == t.toList) = false := by rw [toList_beq]; exact decide_eq_false e
        have HC2 : Hid (∀ (j : Nat) (v : Int) (i : Nat) (x : Nm), j < k + 1 → u[j]? = some v → v = ((i : Nat) : Int) → p.ns[i]? = some x → x.t ≠ t) := Lib.hid (fun j v i' x' hj hv' hvi hx' => by
          by_cases hjk : j < k
          · exact HC.out j v i' x' hjk hv' hvi hx'
          · obtain rfl : j = k := by omega
            rw [hv] at hv'
            obtain rfl := Option.some.inj hv'
            obtain rfl : i = i' := by omega
            rw [hx] at hx'
            obtain rfl := Option.some.inj hx'
            exact e)
        clear e hx hus hv hbw HC
        go_wp2_with fail
        first | done | (go_quiet (fail); go_wp2_with fail) | skip
        go_roundw
        case rel => exact ⟨k + 1, by omega, by go_num, HC2, by first | exact hbr | exact below_drN_r hbr _⟩
        case measure => simp [intOf]; omega
    · have HF : Hid (hasT11 p.ns y t = false) := Lib.hid (has_no HUU.out (fun j v i x hj hv hx => HC.out j v i x (by have h1 := (List.getElem?_eq_some_iff.1 hj).1; have := HM.out; omega) hj hv hx))
      have HBE := Lib.hid (bstep9 HA.out HA.out.size (bstep9 HB1.out HB1.out.size hbr))
      go_wp2_with fail
      go_ret
      exact ⟨by rw [HF.out]; rfl, HBE.out⟩
end
section
set_option linter.unusedVariables false
open Go.RowKit

theorem nin_step {gs : List ByteArray} {k : Nat} {x y : ByteArray} (h : gs[k]? = some y) (ha : x ∉ gs.take k) (hne : ¬ y = x) : x ∉ gs.take (k + 1) := by
  have hk : k < gs.length := (List.getElem?_eq_some_iff.1 h).1
  have hy : gs[k] = y := (List.getElem?_eq_some_iff.1 h).2
  rw [List.take_succ_eq_append_getElem hk, hy, List.mem_append, List.mem_singleton]
  rintro (h1 | h1)
  · exact ha h1
  · exact hne h1.symm
theorem toList_beqC (a b : ByteArray) : (a.toList == b.toList) = decide (a = b) := by
  by_cases h : a = b
  · simp [h]
  · rw [decide_eq_false h, beq_eq_false_iff_ne]
    intro e
    rw [ByteArray.toList_eq, ByteArray.toList_eq] at e
    exact h (ByteArray.ext (Array.toList_inj.1 e))
set_option maxHeartbeats 1000000 in
theorem cIndexT (A : Option Addr) (n c B : Nat) (gs : List ByteArray) (x : ByteArray) (w : World) (hbig : n ≤ 1048576) (h : TextAt w B A n gs) :
    Calls Tryz.prog 137 #[.slice A n c, .string x] w fun e w' => (((∃ k : Nat, e = .returned (.int .i64 (k : Int))) ∧ x ∈ gs) ∨ (e = .returned (.int .i64 (-1)) ∧ x ∉ gs)) ∧ w = w' := by
  have HL := Lib.hid h.1
  have H := Lib.hid h
  clear h
  go_enter Tryz.func137, Tryz.ntmps137
  go_wp2
  go_loop [5, 8] (fun u i => ∃ (k : Nat) (q : Value), u = q ∧ k ≤ n ∧ i = .int .i64 k ∧ Hid (x ∉ gs.take k)) (fun _ i => n - (intOf i).toNat)
  case atStart => exact ⟨0, _, rfl, Nat.zero_le _, rfl, Lib.hid (by simp)⟩
  case round =>
    obtain ⟨k, q, rfl, hk, rfl, HA⟩ := hrel
    by_cases hlt : k < n
    · obtain ⟨y, hy⟩ : ∃ y, gs[k]? = some y := ⟨gs[k]'(by have := HL.out; omega), List.getElem?_eq_getElem _⟩
      obtain ⟨b, o, rfl, _, hcx⟩ := H.out.row2 hy
      have HY := Lib.hid hy
      have u1 : (0 : Int) ≤ (k : Int) := Int.natCast_nonneg _
      have u2 : (k : Int) < (n : Int) := by omega
      clear hy
      by_cases he : y = x
      · have hd : (x.toList == y.toList) = true := by rw [toList_beqC]; exact decide_eq_true he.symm
        have HR : Hid (x ∈ gs) := Lib.hid (by rw [← he]; exact List.mem_of_getElem? HY.out)
        clear he
        go_wp2
        go_ret
        exact ⟨.inl ⟨⟨k, rfl⟩, HR.out⟩, rfl⟩
      · have hd : (x.toList == y.toList) = false := by rw [toList_beqC]; exact decide_eq_false (fun e => he e.symm)
        have HE := Lib.hid he
        clear he
        go_wp2
        go_round
        case rel => exact ⟨k + 1, _, rfl, by omega, by go_num, Lib.hid (nin_step HY.out HA.out HE.out)⟩
        case measure => simp [intOf]; omega
    · have HR : Hid (x ∉ gs) := Lib.hid (by have h1 := HA.out; rwa [List.take_of_length_le (by have := HL.out; omega)] at h1)
      go_wp2
      go_ret
      exact ⟨.inr ⟨rfl, HR.out⟩, rfl⟩
theorem cContT (A : Option Addr) (n c B : Nat) (gs : List ByteArray) (x : ByteArray) (w : World) (hbig : n ≤ 1048576) (h : TextAt w B A n gs) :
    Calls Tryz.prog 88 #[.slice A n c, .string x] w fun e w' => e = .returned (.bool (decide (x ∈ gs))) ∧ w = w' := by
  have CI := Lib.hid (cIndexT A n c B gs x w hbig h)
  clear h
  go_enter Tryz.func88, Tryz.ntmps88
  go_wp2_with fail
  refine CI.out.mono ?_
  rintro e w' ⟨⟨⟨k, rfl⟩, hm⟩ | ⟨rfl, hm⟩, rfl⟩
  · have HD : Hid (decide (x ∈ gs) = true) := Lib.hid (decide_eq_true hm)
    clear hm
    have hk : decide ((k : Int) < 0) = false := decide_eq_false (by omega)
    have hk2 : decide ((0 : Int) ≤ (k : Int)) = true := decide_eq_true (by omega)
    go_wp2_with fail
    go_ret
    exact ⟨by rw [HD.out]; rfl, rfl⟩
  · have HD : Hid (decide (x ∈ gs) = false) := Lib.hid (decide_eq_false hm)
    clear hm
    go_wp2_with fail
    go_ret
    exact ⟨by rw [HD.out]; rfl, rfl⟩
end
end Go.Proofs.YtglmibmjbignbaaGreatDoor
