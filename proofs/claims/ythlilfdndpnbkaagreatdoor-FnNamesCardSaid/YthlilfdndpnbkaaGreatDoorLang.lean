/-
  The contracts of LanguagesOf of both packages.
-/
import Derived.Test.YthlilfdndpnbkaaGreatDoorMu13
import Derived.Test.YthlilfdndpnbkaaGreatDoorInsS
import Derived.Test.YthlilfdndpnbkaaGreatDoorMu9
import Derived.Deep.Onto
namespace Go.Proofs.YthlilfdndpnbkaaGreatDoor
set_option linter.unusedVariables false
open Go.RowKit

def lgL (xs : List Nm) : List ByteArray := xs.map fun x => x.l
theorem lg_at {xs : List Nm} {k : Nat} {x : Nm} (h : xs[k]? = some x) : (lgL xs)[k]? = some x.l := by simp [lgL, h]
theorem lg_len (xs : List Nm) : (lgL xs).length = xs.length := by simp [lgL]
theorem lg_step {xs : List Nm} {k : Nat} {x : Nm} (h : xs[k]? = some x) : lgL (xs.take (k + 1)) = lgL (xs.take k) ++ [x.l] := by rw [take_snoc9 h]; simp [lgL]
noncomputable def lgZ (xs : List Nm) : List ByteArray := if namesB xs then setT (lgL xs) else []
noncomputable def lgC (xs : List Nm) : Int := if namesB xs then 0 else 1
theorem lgZ_ok {xs : List Nm} (h : namesB xs = true) : lgZ xs = setT (lgL xs) := by unfold lgZ; rw [if_pos h]
theorem lgZ_bad {xs : List Nm} (h : namesB xs = false) : lgZ xs = [] := by unfold lgZ; rw [if_neg (by simp [h])]
theorem lgC_ok {xs : List Nm} (h : namesB xs = true) : lgC xs = 0 := by unfold lgC; rw [if_pos h]
theorem lgC_bad {xs : List Nm} (h : namesB xs = false) : lgC xs = 1 := by unfold lgC; rw [if_neg (by simp [h])]
theorem lgZ_len (xs : List Nm) : (lgZ xs).length ≤ 1048576 := by
  cases h : namesB xs
  · rw [lgZ_bad h]; simp
  · rw [lgZ_ok h]; have := setT_len (lgL xs); rw [lg_len] at this; have := (names_of h).1; omega
def OutT9 (zs : List ByteArray) (code : Int) (w : World) (e : Ending) (w' : World) : Prop :=
  ∃ A n c, e = .returned (.tuple #[.slice A n c, .int .i64 code]) ∧ w'.ownsRow w.heap.size 9 1 (.slice A n c) n (strV zs) ∧ Below w.heap.size w w'
theorem grown_own9 {w a b : World} {row : Option Nat} (h : Below w.heap.size w a) (hg : a.grownBy b row) (hr : ∀ k, row = some k → w.heap.size ≤ k) : Below w.heap.size w b := h.grown hg h.size hr
theorem toL_ofL9 (ls : List (List UInt8)) : toL (ofL ls) = ls := by
  unfold toL ofL; rw [List.map_map]
  conv => rhs; rw [← List.map_id ls]
  apply List.map_congr_left
  intro x _
  rfl
theorem vals_strV9 (xs : List ByteArray) : vals xs = strV xs := rfl

set_option maxHeartbeats 2000000 in
set_option maxRecDepth 100000 in
theorem cLang_of (A : Option Addr) (n c : Nat) (xs : List Nm) (w : World) (hbig : n ≤ 1048576) (hz : Sz9 xs) (h : NmAt w w.heap.size A n xs) (hcap : n ≤ c) (hsh : w.ShapedOpen Tryz.prog) (her : Er6 w) :
    Calls Tryz.prog 27 #[.slice A n c] w (OutT9 (lgZ xs) (lgC xs) w) := by
  obtain ⟨i0, hi0, hz0, hz1, hz2⟩ := info_parts info_str0
  have CN := Lib.hid (cAreN_impl A n c xs w hbig hz h hcap hsh her)
  have H := Lib.hid h
  have HN := Lib.hid h.1
  clear h hz hsh her
  cases hv : namesB xs
  · rw [lgZ_bad hv, lgC_bad hv]
    rw [hv] at CN
    clear hv
    go_enter Tryz.func27, Tryz.ntmps27
    go_wp2_with fail
    refine CN.out.mono ?_
    rintro e w1 ⟨rfl, hb1⟩
    go_wp2_with fail
    go_ret2
    exact ⟨none, 0, 0, rfl, World.ownsRow_nil _ _ _ _, hb1⟩
  rw [lgZ_ok hv, lgC_ok hv]
  rw [hv] at CN
  clear hv
  go_enter Tryz.func27, Tryz.ntmps27
  go_wp2_with fail
  refine CN.out.mono ?_
  rintro e w1 ⟨rfl, hb1⟩
  have HB1 := Lib.hid hb1
  clear hb1
  go_wp2_with (at_make; refine wpList_make_full _ rfl _ _ 48 rfl w1.heap.size 9 i0 _ 1 Tryz.underlying48 hi0 hz0 hz1 _ _ _ _ n rfl rfl (by simp) (by simp) ?b2 ?b3 (Nat.le_refl _) ?_)
  case b2 => rw [hz2]; omega
  case b3 => unfold maxLen; omega
  intro w0 hown0 hgrow0
  rw [copyV_zero (lgL xs)] at hown0
  have hb0 : Below w1.heap.size w1 w0 := (Below.refl _ _).grown hgrow0 (Nat.le_refl _) (fun k h => by cases h)
  have HO := Lib.hid hown0
  have HB0 := Lib.hid (bstep9 HB1.out HB1.out.size hb0)
  have HL0 := Lib.hid HB1.out.size
  clear hgrow0 hown0 hb0
  go_wp2
  go_loopw [15] (fun i wr => ∃ k : Nat, k ≤ n ∧ i = .int .i64 k ∧ Hid (wr.ownsRow w1.heap.size 9 1 (.slice (some ⟨w1.heap.size, 0, none⟩) n n) n (copyV (lgL xs) n k)) ∧ Below w.heap.size w wr ∧ w1.heap.size < wr.heap.size) (fun i _ => n - (intOf i).toNat)
  case atStart => exact ⟨0, Nat.zero_le _, rfl, HO, HB0.out, (HO.out.lt w1.heap.size rfl).2⟩
  case round =>
    clear HO HB0
    obtain ⟨k, hk, rfl, HR, hbw, hlw⟩ := hrel
    by_cases hlt : k < n
    · obtain ⟨x, hx⟩ : ∃ x, xs[k]? = some x := ⟨xs[k]'(by have := HN.out; omega), List.getElem?_eq_getElem _⟩
      obtain ⟨b, o, rfl, hbl, c0, c1, c2, c3, c4⟩ := (H.out.below hbw (Nat.le_refl _)).row hx
      have hl : k < (copyV (lgL xs) n k).length := by rw [HR.out.1]; omega
      have hown2 := HR.out.alloc (.cells #[.string x.t, .string x.l, .int .i64 x.s, .int .i64 x.f, .int .i64 x.u] 27)
      have f4 := hown2.frozenAt k
      obtain ⟨v4, d4⟩ : ∃ v, (wr.alloc (.cells #[.string x.t, .string x.l, .int .i64 x.s, .int .i64 x.f, .int .i64 x.u] 27)).cell? ⟨w1.heap.size, k, none⟩ = some v := ⟨_, (hown2.cellAt k (by omega)).trans (List.getElem?_eq_getElem hl)⟩
      have hst := (HR.out.stored k (.string x.l)).1
      rw [copyV_step (lgL xs) n k x.l (by rw [lg_len]; exact HN.out) (lg_at hx)] at hst
      have HST := Lib.hid (hst.alloc (.cells #[.string x.t, .string x.l, .int .i64 x.s, .int .i64 x.f, .int .i64 x.u] 27))
      have hbw1 := (hbw.setCell (p := ⟨w1.heap.size, k, none⟩) HL0.out (.string x.l)).alloc (by simpa using hbw.size) (.cells #[.string x.t, .string x.l, .int .i64 x.s, .int .i64 x.f, .int .i64 x.u] 27)
      have e1 : (0 : Int) ≤ (k : Int) := Int.natCast_nonneg _
      have e2 : (k : Int) < (n : Int) := by omega
      have e3 : w1.heap.size ≠ wr.heap.size := by omega
      clear hx hown2 hst HR hl
      go_wp2_with fail
      go_roundw
      case rel => exact ⟨k + 1, by omega, by go_num, HST, hbw1, by simp; omega⟩
      case measure => simp [intOf]; omega
    · obtain rfl : k = n := by omega
      have HR2 : Hid (wr.ownsRow w.heap.size 9 1 (.slice (some ⟨w1.heap.size, 0, none⟩) k k) k (strV (lgL xs))) := Lib.hid (by have := HR.out; rw [copyV_all (lgL xs) k (by rw [lg_len]; exact HN.out), vals_strV9] at this; exact World.ownsRow.mono this HL0.out)
      have CS := Lib.hid (tSortT (some ⟨w1.heap.size, 0, none⟩) k k w.heap.size (lgL xs) wr (by omega) HR2.out)
      clear HR
      go_wp2_with fail
      refine CS.out.mono ?_
      rintro e w2 ⟨rfl, hown2, hg2⟩
      have hb2 := grown_own9 hbw hg2 (fun k hk => (HR2.out.lt k hk).1)
      have CC := Lib.hid (tCompT (some ⟨w1.heap.size, 0, none⟩) k k w.heap.size _ w2 (by omega) hown2)
      have HO2 := Lib.hid hown2
      clear hg2 hown2
      go_wp2_with fail
      refine CC.out.mono ?_
      rintro e w3 ⟨m3, rfl, hown3, hg3⟩
      have hb3 := grown_own9 hb2 hg3 (fun k hk => (HO2.out.lt k hk).1)
      rw [toL_ofL9] at hown3
      have HO3 := Lib.hid hown3
      clear hg3 hown3
      go_wp2_with fail
      go_ret2
      exact ⟨_, m3, k, rfl, HO3.out, hb3⟩

set_option maxHeartbeats 2000000 in
set_option maxRecDepth 100000 in
theorem cLang_spec9 (A : Option Addr) (n c : Nat) (xs : List Nm) (w : World) (hbig : n ≤ 1048576) (hz : Sz9 xs) (h : NmAt w w.heap.size A n xs) :
    Calls Tryz.prog 28 #[.slice A n c] w (OutT9 (lgZ xs) (lgC xs) w) := by
  have CN := Lib.hid (cAreN_spec A n c xs w hbig hz h)
  have H := Lib.hid h
  have HN := Lib.hid h.1
  clear h hz
  cases hv : namesB xs
  · rw [lgZ_bad hv, lgC_bad hv]
    rw [hv] at CN
    clear hv
    go_enter Tryz.func28, Tryz.ntmps28
    go_wp2_with fail
    refine CN.out.mono ?_
    rintro e w1 ⟨rfl, hb1⟩
    go_wp2_with fail
    go_ret2
    exact ⟨none, 0, 0, rfl, World.ownsRow_nil _ _ _ _, hb1⟩
  rw [lgZ_ok hv, lgC_ok hv]
  rw [hv] at CN
  clear hv
  go_enter Tryz.func28, Tryz.ntmps28
  go_wp2_with fail
  refine CN.out.mono ?_
  rintro e w1 ⟨rfl, hb1⟩
  have hO := World.ownsRow_lit (e := 9) (base := w.heap.size) (size := 1) w1 #[] 0 hb1.size (by decide) rfl
  have HO0 := Lib.hid hO
  have hb1a := hb1.alloc hb1.size (.cells #[] 9)
  clear hO
  go_wp2_with fail
  go_loopw [4, 5] (fun o i wr => ∃ (k g m d : Nat) (zs : List ByteArray), k ≤ n ∧ i = .int .i64 k ∧ o = .slice (some ⟨g, 0, none⟩) m d ∧ Hid (m ≤ k) ∧ Hid (RowT wr w.heap.size g m d zs) ∧ Hid (IsSetT zs (lgL (xs.take k))) ∧ Below w.heap.size w wr) (fun _ i _ => n - (intOf i).toNat)
  case atStart => exact ⟨0, w1.heap.size, 0, 0, [], Nat.zero_le _, rfl, rfl, Lib.hid (Nat.le_refl _), HO0, Lib.hid ⟨List.Pairwise.nil, by simp [lgL]⟩, hb1a⟩
  case round =>
    clear HO0 hb1a hb1 CN
    obtain ⟨k, g, m, d, zs, hk, rfl, rfl, HM, HO, HZ, hbw⟩ := hrel
    by_cases hlt : k < n
    · obtain ⟨x, hx⟩ : ∃ x, xs[k]? = some x := ⟨xs[k]'(by have := HN.out; omega), List.getElem?_eq_getElem _⟩
      obtain ⟨b, o, rfl, hbl, c0, c1, c2, c3, c4⟩ := (H.out.below hbw (Nat.le_refl _)).row hx
      have HST := Lib.hid (lg_step hx)
      have hmk := HM.out
      have CI := Lib.hid (cIns w.heap.size g m d zs (lgL (xs.take k)) x.l wr (by omega) hbw.size HO.out HZ.out)
      have HZL : Hid (zs.length = m) := Lib.hid (by have := HO.out.1; rw [strV_len] at this; omega)
      have u1 : (0 : Int) ≤ (k : Int) := Int.natCast_nonneg _
      have u2 : (k : Int) < (n : Int) := by omega
      clear hx
      go_wp2_with fail
      refine CI.out.mono ?_
      rintro e w3 ⟨g3, m3, d3, zs3, rfl, hm3, hown3, hz3, hb3⟩
      have hbt := bstep9 hbw hbw.size hb3
      have HO3 := Lib.hid hown3
      have HZ3 : Hid (IsSetT zs3 (lgL (xs.take (k + 1)))) := Lib.hid (by rw [HST.out]; exact hz3)
      have HM3 : Hid (m3 ≤ k + 1) := Lib.hid (by have := HZL.out; omega)
      clear hown3 hz3 hb3 hm3 HST
      go_wp2_with fail
      go_roundw
      case rel => exact ⟨k + 1, g3, m3, d3, zs3, by omega, by go_num, rfl, HM3, HO3, HZ3, hbt⟩
      case measure => simp [intOf]; omega
    · have HE : Hid (zs = setT (lgL xs)) := Lib.hid (setT_eq (by have := HZ.out; rwa [List.take_of_length_le (by have := HN.out; omega)] at this))
      have HO2 : Hid (wr.ownsRow w.heap.size 9 1 (.slice (some ⟨g, 0, none⟩) m d) m (strV (setT (lgL xs)))) := Lib.hid (by rw [← HE.out]; exact HO.out)
      go_wp2_with fail
      go_ret2
      exact ⟨_, m, d, rfl, HO2.out, hbw⟩
end Go.Proofs.YthlilfdndpnbkaaGreatDoor
