/-
  The contracts of slices.Sort and slices.Compact at texts and at numbers of one's own, and of spec.l08Insert.
-/
import Derived.Test.YtglmibmjbignbaaGreatDoorMy11
import Derived.Test.YtglmibmjbignbaaGreatDoorShelfT
import Derived.Test.YtglmibmjbignbaaGreatDoorMy6
import Derived.Test.YtglmibmjbignbaaGreatDoorMy5
import Derived.Deep.RegionLaw
import Derived.Deep.AppendLies
import Derived.Deep.QuietTactic
import Derived.BigQuiet
import Derived.Shelf.SortG.Plain
import Derived.Test.YtglmibmjbignbaaGreatDoorMy22
import Derived.Test.YtglmibmjbignbaaGreatDoorMy24
namespace Go.Proofs.YtglmibmjbignbaaGreatDoor
section
set_option linter.unusedVariables false
open Go.RowKit Go.Sort

theorem toList_beq' (a b : ByteArray) : (a.toList == b.toList) = decide (a = b) := by
  by_cases h : a = b
  · simp [h]
  · rw [decide_eq_false h, beq_eq_false_iff_ne]
    intro e
    rw [ByteArray.toList_eq, ByteArray.toList_eq] at e
    exact h (ByteArray.ext (Array.toList_inj.1 e))
theorem take_snocT {xs : List ByteArray} {k : Nat} {x : ByteArray} (h : xs[k]? = some x) : xs.take (k + 1) = xs.take k ++ [x] := by
  have hk : k < xs.length := (List.getElem?_eq_some_iff.1 h).1
  have hx : xs[k] = x := (List.getElem?_eq_some_iff.1 h).2
  rw [List.take_succ_eq_append_getElem hk, hx]
theorem strV_toL (xs : List ByteArray) : strV xs = (toL xs).map encStr := by
  unfold strV toL; rw [List.map_map]
  apply List.map_congr_left
  intro x _
  rfl
theorem strV_ofL (ls : List (List UInt8)) : strV (ofL ls) = ls.map encStr := by
  unfold strV ofL; rw [List.map_map]
  apply List.map_congr_left
  intro x _
  rfl
theorem toL_len (xs : List ByteArray) : (toL xs).length = xs.length := by simp [toL]
theorem own_prefix {w : World} {base g n cap m s : Nat} {e : TypeId} {xs : List Value} (h : w.ownsRow base e s (.slice (some ⟨g, 0, none⟩) n cap) n xs) (hm : m ≤ n) :
    w.ownsRow base e s (.slice (some ⟨g, 0, none⟩) m cap) m (xs.take (m * s)) := by
  rcases h.2 with ⟨hv, _⟩ | ⟨g', cap', cur, hv, h1, h2, h3, h4, h5, h6⟩
  · cases hv
  · cases hv
    have hle : m * s ≤ n * s := Nat.mul_le_mul_right _ hm
    refine ⟨by rw [List.length_take]; have := h.1; omega, .inr ⟨g, cap, cur, rfl, h1, h2, by omega, h4, h5, ?_⟩⟩
    rw [← h6, List.take_take, Nat.min_eq_left hle]

def SortedT (A : Option Addr) (n c base : Nat) (xs : List ByteArray) (w : World) (e : Ending) (w' : World) : Prop :=
  e = .returned (.tuple #[]) ∧ w'.ownsRow base 9 1 (.slice A n c) n (strV (ofL ((toL xs).mergeSort fun x y => decide (x ≤ y)))) ∧ w.grownBy w' (Value.slice A n c).ownBlock
theorem tSortT (A : Option Addr) (n c base : Nat) (xs : List ByteArray) (w : World) (hbig : n ≤ 1048576) (h : w.ownsRow base 9 1 (.slice A n c) n (strV xs)) :
    Calls Tryz.prog 76 #[.slice A n c] w (SortedT A n c base xs w) := by
  have hl : n = (toL xs).length := by have := h.1; rw [strV_len] at this; rw [toL_len]; omega
  rcases Nat.eq_zero_or_pos n with rfl | hp
  · have h1 := AnyG.slices_Sort_string_none Tryz.sortT A c w
    change Calls Tryz.prog 76 _ _ _ at h1
    refine h1.mono ?_
    rintro e w' ⟨rfl, rfl⟩
    have hx : toL xs = [] := List.eq_nil_of_length_eq_zero hl.symm
    have hx2 : xs = [] := by have := congrArg List.length hx; rw [toL_len] at this; exact List.eq_nil_of_length_eq_zero this
    subst hx2
    exact ⟨rfl, by rw [show ofL ((toL ([] : List ByteArray)).mergeSort fun x y => decide (x ≤ y)) = [] from by simp [toL, ofL]]; exact h, World.grownBy.refl _ _⟩
  · rcases h.2 with ⟨_, h0⟩ | ⟨g, cap, cur, hv, h1, h2, h3, h4, h5, h6⟩
    · omega
    cases hv
    rw [strV_toL, Nat.mul_one] at h6
    have hH := holds_of_block (ss := toL xs) h2 (by rw [← hl]; exact h6)
    have k := AnyG.slices_Sort_string Tryz.sortT g 0 c (toL xs) w hH (Array.getElem?_eq_some_iff.1 h2).1 (by omega)
    rw [← hl] at k
    change Calls Tryz.prog 76 _ _ _ at k
    refine k.mono ?_
    rintro e w' ⟨rfl, q, os, rfl⟩
    have ho := ownsRow_sorted (n := q) (os := os) (ss := toL xs) (ts := (toL xs).mergeSort fun x y => decide (x ≤ y)) (List.length_mergeSort ..) h1 h2 (by omega) h4 h5
    rw [← hl] at ho
    rw [← strV_ofL] at ho
    exact ⟨rfl, ho, grownBy_sorted _⟩
def CompT (A : Option Addr) (n c base : Nat) (xs : List ByteArray) (w : World) (e : Ending) (w' : World) : Prop :=
  ∃ m, e = .returned (.slice A m c) ∧ w'.ownsRow base 9 1 (.slice A m c) m (strV (ofL (Lib.compact (toL xs)))) ∧ w.grownBy w' (Value.slice A n c).ownBlock
theorem tCompT (A : Option Addr) (n c base : Nat) (xs : List ByteArray) (w : World) (hbig : n ≤ 1048576) (h : w.ownsRow base 9 1 (.slice A n c) n (strV xs)) :
    Calls Tryz.prog 77 #[.slice A n c] w (CompT A n c base xs w) := by
  have hl : n = (toL xs).length := by have := h.1; rw [strV_len] at this; rw [toL_len]; omega
  rcases Nat.eq_zero_or_pos n with rfl | hp
  · refine (Tryz.slices_Compact_string_empty A c w).mono ?_
    rintro e w' ⟨rfl, rfl⟩
    have hx : toL xs = [] := List.eq_nil_of_length_eq_zero hl.symm
    have hx2 : xs = [] := by have := congrArg List.length hx; rw [toL_len] at this; exact List.eq_nil_of_length_eq_zero this
    subst hx2
    exact ⟨0, rfl, h, World.grownBy.refl _ _⟩
  · rcases h.2 with ⟨_, h0⟩ | ⟨g, cap, cur, hv, h1, h2, h3, h4, h5, h6⟩
    · omega
    cases hv
    rw [strV_toL, Nat.mul_one] at h6
    have hH := holds_of_block (ss := toL xs) h2 (by rw [← hl]; exact h6)
    have k := Tryz.slices_Compact_string g 0 c (toL xs) w hH (by omega) (by omega)
    rw [← hl] at k
    refine k.mono ?_
    rintro e w' ⟨rfl, q, rfl⟩
    have hcl := Lib.compact_length_le (toL xs)
    have ho := ownsRow_sorted (n := q) (os := #[]) (ss := toL xs) (ts := Lib.compact (toL xs) ++ List.replicate ((toL xs).length - (Lib.compact (toL xs)).length) []) (by rw [List.length_append, List.length_replicate]; omega) h1 h2 (by omega) h4 h5
    rw [grow_empty, ← hl] at ho
    have hp := own_prefix (m := (Lib.compact (toL xs)).length) ho (by omega)
    rw [Nat.mul_one, ← List.map_take, List.take_left, ← strV_ofL] at hp
    have hg := grownBy_sorted (w := w) (g := g) (n := q) (os := #[]) (Lib.compact (toL xs) ++ List.replicate ((toL xs).length - (Lib.compact (toL xs)).length) []).toArray
    rw [grow_empty, ← hl] at hg
    exact ⟨_, rfl, hp, hg⟩
def SortedI (A : Option Addr) (n c base : Nat) (xs : List Int) (w : World) (e : Ending) (w' : World) : Prop :=
  e = .returned (.tuple #[]) ∧ w'.ownsRow base 2 1 (.slice A n c) n (intV (xs.mergeSort fun x y => decide (x ≤ y))) ∧ w.grownBy w' (Value.slice A n c).ownBlock
def CompI (A : Option Addr) (n c base : Nat) (xs : List Int) (w : World) (e : Ending) (w' : World) : Prop :=
  ∃ m, e = .returned (.slice A m c) ∧ w'.ownsRow base 2 1 (.slice A m c) m (intV (Lib.compact xs)) ∧ w.grownBy w' (Value.slice A n c).ownBlock
end
section
set_option linter.unusedVariables false
open Go.RowKit

theorem grown_own11 {w a b : World} {row : Option Nat} (h : Below w.heap.size w a) (hg : a.grownBy b row) (hr : ∀ k, row = some k → w.heap.size ≤ k) : Below w.heap.size w b := h.grown hg h.size hr
theorem toL_ofL11 (ls : List (List UInt8)) : toL (ofL ls) = ls := by
  unfold toL ofL; rw [List.map_map]
  conv => rhs; rw [← List.map_id ls]
  apply List.map_congr_left
  intro x _
  rfl
set_option maxHeartbeats 2000000 in
set_option maxRecDepth 100000 in
theorem cTexts (A : Option Addr) (n c : Nat) (xs : List Nm) (y : Int) (w : World) (hb : n ≤ 1048576) (h : NmAt w w.heap.size A n xs) :
    Calls Tryz.prog 75 #[.slice A n c, .int .i64 y] w (RowT11 (setT (txU xs y)) w) := by
  obtain ⟨i0, hi0, hz0, hz1, hz2⟩ := info_parts info_strW
  have H := Lib.hid h
  have HN := Lib.hid h.1
  have CU := Lib.hid (fun x W => cUsed1 x y W)
  clear h
  go_enter Tryz.func75, Tryz.ntmps75
  go_wp2_with fail
  go_loopw [5, 10] (fun o i wr => ∃ (k m d : Nat) (B : Option Addr), k ≤ n ∧ i = .int .i64 k ∧ o = .slice B m d ∧ Hid (m ≤ k) ∧ Hid (wr.ownsRow w.heap.size 9 1 (.slice B m d) m (strV (txU (xs.take k) y))) ∧ Below w.heap.size w wr) (fun _ i _ => n - (intOf i).toNat)
  case atStart => exact ⟨0, 0, 0, none, Nat.zero_le _, rfl, rfl, Lib.hid (Nat.le_refl _), Lib.hid (World.ownsRow_nil _ _ _ _), Below.refl _ _⟩
  case round =>
    obtain ⟨k, m, d, B, hk, rfl, rfl, HM, HO, hbw⟩ := hrel
    by_cases hlt : k < n
    · obtain ⟨x, hx⟩ : ∃ x, xs[k]? = some x := ⟨xs[k]'(by have := HN.out; omega), List.getElem?_eq_getElem _⟩
      obtain ⟨b, o, rfl, hbl, c0, c1, c2, c3, c4⟩ := (H.out.below hbw (Nat.le_refl _)).row hx
      have hb1 := hbw.alloc hbw.size (.cells #[.string x.t, .string x.l, .int .i64 x.s, .int .i64 x.f, .int .i64 x.u] 100)
      have HB := Lib.hid hb1
      have HX := Lib.hid hx
      have CX := Lib.hid (fun W => CU.out x W)
      have HO1 := Lib.hid (HO.out.alloc (.cells #[.string x.t, .string x.l, .int .i64 x.s, .int .i64 x.f, .int .i64 x.u] 100))
      have u1 : (0 : Int) ≤ (k : Int) := Int.natCast_nonneg _
      have u2 : (k : Int) < (n : Int) := by omega
      have HK1 : Hid (NmCell (wr.alloc (.cells #[.string x.t, .string x.l, .int .i64 x.s, .int .i64 x.f, .int .i64 x.u] 100)) wr.heap.size 0 x) := Lib.hid (nm_new wr x _)
      clear hx hb1
      cases hf : usB x y
      · rw [hf] at CX
        have HST := Lib.hid (txU_no HX.out hf)
        clear hf
        go_wp2_with fail
        refine (CX.out _).mono ?_
        rintro e w2 ⟨rfl, hb2⟩
        have hbt := bstep9 HB.out HB.out.size hb2
        have HO2 : Hid (w2.ownsRow w.heap.size 9 1 (.slice B m d) m (strV (txU (xs.take (k + 1)) y))) := Lib.hid (by rw [HST.out]; exact keptW HO1.out hb2)
        clear hb2
        go_wp2_with fail
        go_roundw
        case rel => exact ⟨k + 1, m, d, B, by omega, by go_num, rfl, Lib.hid (by have := HM.out; omega), HO2, hbt⟩
        case measure => simp [intOf]; omega
      · rw [hf] at CX
        have HST := Lib.hid (txU_yes HX.out hf)
        clear hf
        go_wp2_with fail
        refine (CX.out _).mono ?_
        rintro e w2 ⟨rfl, hb2⟩
        have hbt := bstep9 HB.out HB.out.size hb2
        have hown := keptW HO1.out hb2
        have hmk := HM.out
        have q0 := (HK1.out.below hb2 (by simp)).1
        clear hb2
        go_wp2_with (at_builtin; refine wpList_append_own _ rfl _ _ 38 rfl w.heap.size 9 i0 _ 1 16 Tryz.underlying38 hi0 hz0 hz1 hz2 rfl (by decide) _ _ _ rfl (hown.alloc _) ⟨w2.heap.size, 0, none⟩ 1 1 [.string x.t] rfl rfl ?d1 ?d2 ?d3 ?d4 ?d5 ?_)
        case d1 => exact one_cell' _ _ _ (new_one _ _ _)
        case d2 => intro u hu; simp at hu; subst hu; rfl
        case d3 => unfold maxLen; omega
        case d4 => omega
        case d5 => have := hbt.size; simp; omega
        intro v' w3 hown3 hgrow3 _
        rw [strV_snocW] at hown3
        have hb3 : Below w.heap.size w w3 := (hbt.alloc hbt.size _).grown hgrow3 (by have := hbt.size; simp; omega) (fun x hx => (hown.lt x hx).1)
        have HO3 : Hid (w3.ownsRow w.heap.size 9 1 v' (m + 1) (strV (txU (xs.take (k + 1)) y))) := Lib.hid (by rw [HST.out]; exact hown3)
        obtain ⟨g', c', rfl, _, _⟩ := World.ownsRow.form HO3.out (by omega)
        clear hown3 hown hgrow3 q0
        go_wp2_with fail
        go_roundw
        case rel => exact ⟨k + 1, m + 1, c', some ⟨g', 0, none⟩, by omega, by go_num, rfl, Lib.hid (by omega), HO3, hb3⟩
        case measure => simp [intOf]; omega
    · have HF : Hid (wr.ownsRow w.heap.size 9 1 (.slice B m d) m (strV (txU xs y))) := Lib.hid (by have := HO.out; rwa [List.take_of_length_le (by have := HN.out; omega)] at this)
      have hm : m ≤ 1048576 := by have := HM.out; omega
      have CS := Lib.hid (tSortT B m d w.heap.size (txU xs y) wr hm HF.out)
      clear HO
      go_wp2_with fail
      refine CS.out.mono ?_
      rintro e w2 ⟨rfl, hown2, hg2⟩
      have hb2 := grown_own11 hbw hg2 (fun k hk => (HF.out.lt k hk).1)
      have CC := Lib.hid (tCompT B m d w.heap.size _ w2 hm hown2)
      have HO2 := Lib.hid hown2
      clear hg2 hown2
      go_wp2_with fail
      refine CC.out.mono ?_
      rintro e w3 ⟨m3, rfl, hown3, hg3⟩
      have hb3 := grown_own11 hb2 hg3 (fun k hk => (HO2.out.lt k hk).1)
      rw [toL_ofL11] at hown3
      have HO3 := Lib.hid hown3
      clear hg3 hown3
      go_wp2_with fail
      go_ret
      exact ⟨B, m3, d, rfl, HO3.out, hb3⟩
end
section
set_option linter.unusedVariables false
open Go.RowKit

theorem offC_bad {xs : List Nm} {l : ByteArray} {y : Int} (h : qC xs [l] y ≠ 0) : offC xs l y = qC xs [l] y := by unfold offC; rw [if_neg h]
theorem offC_hit {xs : List Nm} {l : ByteArray} {y : Int} {k : Nat} (h : qC xs [l] y = 0) (hk : offF xs l y = some k) : offC xs l y = 0 := by unfold offC; rw [if_pos h, hk]
theorem offC_miss {xs : List Nm} {l : ByteArray} {y : Int} (h : qC xs [l] y = 0) (hk : offF xs l y = none) : offC xs l y = 4 := by unfold offC; rw [if_pos h, hk]
theorem offZ_bad {xs : List Nm} {l : ByteArray} {y : Int} (h : qC xs [l] y ≠ 0) : offZ xs l y = 0 := by unfold offZ; rw [if_neg h]
theorem offZ_hit {xs : List Nm} {l : ByteArray} {y : Int} {k : Nat} (h : qC xs [l] y = 0) (hk : offF xs l y = some k) : offZ xs l y = (k : Int) := by unfold offZ; rw [if_pos h, hk]
theorem offZ_miss {xs : List Nm} {l : ByteArray} {y : Int} (h : qC xs [l] y = 0) (hk : offF xs l y = none) : offZ xs l y = 0 := by unfold offZ; rw [if_pos h, hk]
theorem ou_no1 {l : ByteArray} {y : Int} {x : Nm} (h : ofB l x = false) : ouB l y x = false := by unfold ouB; rw [h]; rfl
theorem ou_two {l : ByteArray} {y : Int} {x : Nm} (h : ofB l x = true) : ouB l y x = usB x y := by unfold ouB; rw [h]; rfl
/-- Before k there is none. -/
def NoneTo (p : Nm → Bool) (xs : List Nm) (k : Nat) : Prop := ∀ (j : Nat) z, j < k → xs[j]? = some z → p z = false
theorem none_step {p : Nm → Bool} {xs : List Nm} {k : Nat} {x : Nm} (h : NoneTo p xs k) (hx : xs[k]? = some x) (hp : p x = false) : NoneTo p xs (k + 1) := fun j z hj hz => by
  by_cases hlt : j < k
  · exact h j z hlt hz
  · obtain rfl : j = k := by omega
    rw [hx] at hz; obtain rfl := Option.some.inj hz; exact hp
theorem none_end {p : Nm → Bool} {xs : List Nm} {k : Nat} (h : NoneTo p xs k) (hk : xs.length ≤ k) : fstF p xs = none := fst_miss fun j z hz => h j z (by have := (List.getElem?_eq_some_iff.1 hz).1; omega) hz

/-- What findOfficial answers: an index and an error. -/
def FindOut (z c : Int) (w : World) (e : Ending) (w' : World) : Prop := (∃ v, e = .returned (.tuple #[.int .i64 z, v]) ∧ RefV c v) ∧ Below w.heap.size w w'

end
section
set_option linter.unusedVariables false
open Go.RowKit

theorem numAt_row9 {w : World} {B n : Nat} {A : Option Addr} {xs : List Int} (h : NumAt w B A n xs) {k : Nat} {x : Int} (hx : xs[k]? = some x) :
    ∃ b o, A = some ⟨b, o, none⟩ ∧ b < B ∧ w.cell? ⟨b, o + k, none⟩ = some (.int .i64 x) := by
  have := (List.getElem?_eq_some_iff.1 hx).1
  obtain ⟨b, o, h1, h2, h3⟩ := h.2 (by have := h.1; omega)
  exact ⟨b, o, h1, h2, h3 k x hx⟩
/-- The search over the used ones is the search over all. -/
def okO (xs : List Nm) (l : ByteArray) (v : Int) : Bool := match xs[v.toNat]? with | some x => ofB l x | none => false
theorem us_find (xs : List Nm) (l : ByteArray) (y : Int) : ∀ k, k ≤ xs.length → (usP xs y k).find? (okO xs l) = ((List.range k).find? fun i => match xs[i]? with | some x => ouB l y x | none => false).map Int.ofNat
  | 0, _ => rfl
  | k + 1, h => by
    have ih := us_find xs l y k (by omega)
    obtain ⟨x, hx⟩ : ∃ x, xs[k]? = some x := ⟨xs[k]'(by omega), List.getElem?_eq_getElem _⟩
    rw [List.range_succ, List.find?_append]
    cases hu : usB x y
    · rw [usP_no hx hu, ih]
      have : ([k].find? fun i => match xs[i]? with | some x => ouB l y x | none => false) = none := by simp [hx, ouB, hu]
      rw [this, Option.or_none]
    · rw [usP_yes hx hu, List.find?_append, ih]
      have h1 : ([(k : Int)].find? (okO xs l)) = ([k].find? fun i => match xs[i]? with | some x => ouB l y x | none => false).map Int.ofNat := by
        cases ho : ofB l x <;> simp [okO, hx, ouB, hu, ho]
      rw [h1]
      cases ((List.range k).find? fun i => match xs[i]? with | some x => ouB l y x | none => false) <;> rfl
theorem off_find (xs : List Nm) (l : ByteArray) (y : Int) : (usP xs y xs.length).find? (okO xs l) = (offF xs l y).map Int.ofNat := us_find xs l y xs.length (Nat.le_refl _)
theorem find_hit9 {p : Int → Bool} {u : List Int} {k : Nat} {v : Int} (h : u[k]? = some v) (hp : p v = true) (hn : ∀ z ∈ u.take k, p z = false) : u.find? p = some v := by
  have hk := (List.getElem?_eq_some_iff.1 h).1
  have hv := (List.getElem?_eq_some_iff.1 h).2
  rw [← List.take_append_drop k u, List.find?_append, List.find?_eq_none.2 (fun z hz => by simp [hn z hz]), Option.none_or, List.drop_eq_getElem_cons hk, hv, List.find?_cons_of_pos hp]
theorem find_miss9 {p : Int → Bool} {u : List Int} {k : Nat} (hk : u.length ≤ k) (hn : ∀ z ∈ u.take k, p z = false) : u.find? p = none := by
  rw [List.take_of_length_le hk] at hn
  exact List.find?_eq_none.2 fun z hz => by simp [hn z hz]
theorem take_no9 {p : Int → Bool} {u : List Int} {k : Nat} {v : Int} (h : u[k]? = some v) (hp : p v = false) (hn : ∀ z ∈ u.take k, p z = false) : ∀ z ∈ u.take (k + 1), p z = false := fun z hz => by
  rw [take_snoc9 h, List.mem_append] at hz
  rcases hz with hz | hz
  · exact hn z hz
  · obtain rfl : z = v := by simpa using hz
    exact hp
def offN (o : Option Nat) : Int := match o with | some k => (k : Int) | none => -1

end
end Go.Proofs.YtglmibmjbignbaaGreatDoor
