/-
  The contracts of yearsOf and of OfficialYears of both packages.
-/
import Derived.Test.YthlilfdndpnbkaaGreatDoorOff9
import Derived.Test.YthlilfdndpnbkaaGreatDoorYearsT
namespace Go.Proofs.YthlilfdndpnbkaaGreatDoor
set_option linter.unusedVariables false
open Go.RowKit

/-- The spans of the official names with a language. -/
def oyL (xs : List Nm) (l : ByteArray) : List Spn := (xs.filter (ofB l)).map fun x => (x.f, x.u)
theorem oy_yes {xs : List Nm} {l : ByteArray} {k : Nat} {x : Nm} (h : xs[k]? = some x) (ho : ofB l x = true) : oyL (xs.take (k + 1)) l = oyL (xs.take k) l ++ [(x.f, x.u)] := by
  rw [take_snoc9 h]; unfold oyL; rw [List.filter_append, List.map_append]; simp [ho]
theorem oy_no {xs : List Nm} {l : ByteArray} {k : Nat} {x : Nm} (h : xs[k]? = some x) (ho : ofB l x = false) : oyL (xs.take (k + 1)) l = oyL (xs.take k) l := by
  rw [take_snoc9 h]; unfold oyL; rw [List.filter_append, List.map_append]; simp [ho]
theorem oy_len (xs : List Nm) (l : ByteArray) : (oyL xs l).length ≤ xs.length := by unfold oyL; rw [List.length_map]; exact List.length_filter_le _ _
theorem oy_valid {xs : List Nm} {l : ByteArray} (h : Good xs) : Valid (oyL xs l) := fun p hp => by
  unfold oyL at hp
  obtain ⟨x, hx, rfl⟩ := List.mem_map.1 hp
  exact good9_sp h x (List.mem_filter.1 hx).1
theorem years_upto {us ys zs : List Spn} (hv : Valid us) (hp : ys.Perm us) (h : Joined ys ys.length zs) : Upto true us [] zs 3001 := by
  refine ⟨h.1, fun z => ?_⟩
  rw [h.2.1 z, List.take_length, perm_mem hp]
  have e : askB true us [] z = true ↔ memS z us := by
    unfold askB
    simp only [if_true, Bool.or_eq_true, inB_mem]
    exact ⟨fun h => h.resolve_right (memS_nil z), .inl⟩
  rw [e]
  exact ⟨fun h1 => ⟨h1, by obtain ⟨p, hp, h2, h3⟩ := h1; have := spB_bd (hv p hp); omega⟩, fun h1 => h1.1⟩
open Classical in
noncomputable def unZ (us : List Spn) : List Spn := if h : ∃ zs : List Spn, zs.length ≤ 6001 ∧ Upto true us [] zs 3001 then h.choose else []
theorem unZ_len (us : List Spn) : (unZ us).length ≤ 6001 := by
  unfold unZ; split
  · rename_i h; exact h.choose_spec.1
  · simp
theorem unZ_eq {us zs : List Spn} (h1 : zs.length ≤ 6001) (h : Upto true us [] zs 3001) : zs = unZ us := by
  have he : ∃ zs : List Spn, zs.length ≤ 6001 ∧ Upto true us [] zs 3001 := ⟨zs, h1, h⟩
  unfold unZ; rw [dif_pos he]; exact h.uniq he.choose_spec.2
noncomputable def oyZ (xs : List Nm) (l : ByteArray) : List Spn := if namesB xs && langB l then unZ (oyL xs l) else []
noncomputable def oyC (xs : List Nm) (l : ByteArray) : Int := if namesB xs && langB l then 0 else 1
theorem oyZ_ok {xs : List Nm} {l : ByteArray} (h : (namesB xs && langB l) = true) : oyZ xs l = unZ (oyL xs l) := by unfold oyZ; rw [if_pos h]
theorem oyZ_no {xs : List Nm} {l : ByteArray} (h : (namesB xs && langB l) = false) : oyZ xs l = [] := by unfold oyZ; rw [if_neg (by simp [h])]
theorem oyC_ok {xs : List Nm} {l : ByteArray} (h : (namesB xs && langB l) = true) : oyC xs l = 0 := by unfold oyC; rw [if_pos h]
theorem oyC_no {xs : List Nm} {l : ByteArray} (h : (namesB xs && langB l) = false) : oyC xs l = 1 := by unfold oyC; rw [if_neg (by simp [h])]
theorem oyZ_len (xs : List Nm) (l : ByteArray) : (oyZ xs l).length ≤ 1048576 := by
  unfold oyZ; split
  · have := unZ_len (oyL xs l); omega
  · simp
theorem qC_oy (xs : List Nm) (l : ByteArray) : qC xs [l] 0 = oyC xs l := by
  have : yrB 0 = true := by decide
  unfold qC oyC; rw [this]; simp

theorem cYearsOf (C : Option Addr) (m c base : Nat) (us : List Spn) (w : World) (hm : m ≤ 12) (h : w.ownsRow base 25 2 (.slice C m c) m (spanV us)) (hv : Valid us) :
    Calls Tryz.prog 79 #[.slice C m c] w fun e w' => ∃ D d, e = .returned (.tuple #[.slice D (unZ us).length d, .int .i64 0]) ∧ w'.ownsRow w.heap.size 25 2 (.slice D (unZ us).length d) (unZ us).length (spanV (unZ us)) ∧ ∀ (a : World) B, Below B a w → B ≤ base → B ≤ w.heap.size → Below B a w' := by
  have CS := Lib.hid (cSort_any C m c base us w (by omega) h)
  have HLT := Lib.hid h.lt
  have HV := Lib.hid hv
  clear h hv
  go_enter Tryz.func79, Tryz.ntmps79
  go_wp2_with fail
  refine CS.out.mono ?_
  rintro e w1 ⟨rfl, ys, hperm, hris, hrow, hg⟩
  have HPM := Lib.hid hperm
  have HRS := Lib.hid hris
  have HRW := Lib.hid hrow
  have HVY : Hid (Valid ys) := Lib.hid (fun p hp => HV.out p (hperm.mem_iff.1 hp))
  have HG := Lib.hid hg
  clear hperm hris hrow hg
  go_wp2_with fail
  refine (cJoinT C m c ys w1 (by omega) HRW.out.span HVY.out HRS.out).mono ?_
  rintro e w2 ⟨zs, D, l, d, hl, hj, rfl, hown, hb2⟩
  have hlen : l ≤ 12 := by have h1 := hj.2.2.2; have h2 := HRW.out.len; omega
  have hz := unZ_eq (by omega) (years_upto HV.out HPM.out hj)
  subst hl
  have HZ := Lib.hid hz
  have HO := Lib.hid hown
  clear hj hz hown
  have hd : decide ((12 : Int) < (zs.length : Int)) = false := decide_eq_false (by omega)
  have CL := cLimited D zs.length d w2 (by omega)
  rw [if_neg (by omega)] at CL
  have HCL := Lib.hid CL
  clear CL
  go_wp2_with fail
  refine HCL.out.mono ?_
  rintro e w3 ⟨rfl, rfl⟩
  go_wp2_with fail
  go_ret2
  refine ⟨D, d, by rw [← HZ.out]; rfl, by rw [← HZ.out]; exact World.ownsRow.mono HO.out HG.out.size, fun a B ha hB hs => ?_⟩
  exact (ha.grown HG.out hs (fun k hk => Nat.le_trans hB (HLT.out k hk).1)).trans (hb2.mono (Nat.le_trans hs HG.out.size))

def OutP9 (zs : List Spn) (code : Int) (w : World) (e : Ending) (w' : World) : Prop :=
  ∃ A n c, e = .returned (.tuple #[.slice A n c, .int .i64 code]) ∧ w'.ownsRow w.heap.size 25 2 (.slice A n c) n (spanV zs) ∧ Below w.heap.size w w'

set_option maxHeartbeats 4000000 in
set_option maxRecDepth 100000 in
theorem cOy_impl (A : Option Addr) (n c : Nat) (xs : List Nm) (l : ByteArray) (w : World) (hb : n ≤ 1048576) (hz : Sz9 xs) (hl : l.size ≤ maxLen) (h : NmAt w w.heap.size A n xs) (hcap : n ≤ c) (hsh : w.ShapedOpen Tryz.prog) (her : Er6 w) :
    Calls Tryz.prog 35 #[.slice A n c, .string l] w (OutP9 (oyZ xs l) (oyC xs l) w) := by
  obtain ⟨i0, hi0, hz0, hz1, hz2⟩ := info_parts info_span
  have CN := Lib.hid (cAreN_impl A n c xs w hb hz h hcap hsh her)
  have CL := Lib.hid (fun W => cLang_impl l W hl)
  have CO := Lib.hid (fun x W => cOffi x l W)
  have H := Lib.hid h
  have HN := Lib.hid h.1
  clear h hsh her hz
  cases hn : namesB xs
  · have HZ := Lib.hid (oyZ_no (xs := xs) (l := l) (by rw [hn]; rfl))
    have HC := Lib.hid (oyC_no (xs := xs) (l := l) (by rw [hn]; rfl))
    rw [hn] at CN
    clear hn
    go_enter Tryz.func35, Tryz.ntmps35
    go_wp2_with fail
    refine CN.out.mono ?_
    rintro e w1 ⟨rfl, hb1⟩
    go_wp2_with fail
    go_ret2
    exact ⟨none, 0, 0, by rw [HC.out]; rfl, by rw [HZ.out]; exact World.ownsRow_nil _ _ _ _, hb1⟩
  cases hlg : langB l
  · have HZ := Lib.hid (oyZ_no (xs := xs) (l := l) (by rw [hlg, Bool.and_false]))
    have HC := Lib.hid (oyC_no (xs := xs) (l := l) (by rw [hlg, Bool.and_false]))
    rw [hn] at CN
    rw [hlg] at CL
    clear hn hlg
    go_enter Tryz.func35, Tryz.ntmps35
    go_wp2_with fail
    refine CN.out.mono ?_
    rintro e w1 ⟨rfl, hb1⟩
    go_wp2_with (go_at_call 77; refine (CL.out _).mono ?_; rintro e w' ⟨rfl, rfl⟩)
    go_ret2
    exact ⟨none, 0, 0, by rw [HC.out]; rfl, by rw [HZ.out]; exact World.ownsRow_nil _ _ _ _, hb1⟩
  have HZ := Lib.hid (oyZ_ok (xs := xs) (l := l) (by rw [hn, hlg]; rfl))
  have HC := Lib.hid (oyC_ok (xs := xs) (l := l) (by rw [hn, hlg]; rfl))
  have HNB := Lib.hid (names_of hn)
  rw [hn] at CN
  rw [hlg] at CL
  clear hn hlg
  have hn12 : n ≤ 12 := by have := HNB.out.1; have := HN.out; omega
  go_enter Tryz.func35, Tryz.ntmps35
  go_wp2_with fail
  refine CN.out.mono ?_
  rintro e w1 ⟨rfl, hb1⟩
  have HB1 := Lib.hid hb1
  clear hb1
  go_wp2_with (go_at_call 77; refine (CL.out _).mono ?_; rintro e w' ⟨rfl, rfl⟩)
  go_loopw [6, 19] (fun o i wr => ∃ (k m d : Nat) (B : Option Addr), k ≤ n ∧ i = .int .i64 k ∧ o = .slice B m d ∧ Hid (m ≤ k) ∧ Hid (wr.ownsRow w.heap.size 25 2 (.slice B m d) m (spanV (oyL (xs.take k) l))) ∧ Below w.heap.size w wr) (fun _ i _ => n - (intOf i).toNat)
  case atStart => exact ⟨0, 0, 0, none, Nat.zero_le _, rfl, rfl, Lib.hid (Nat.le_refl _), Lib.hid (World.ownsRow_nil _ _ _ _), HB1.out⟩
  case round =>
    obtain ⟨k, m, d, B, hk, rfl, rfl, HM, HO, hbw⟩ := hrel
    by_cases hlt : k < n
    · obtain ⟨x, hx⟩ : ∃ x, xs[k]? = some x := ⟨xs[k]'(by have := HN.out; omega), List.getElem?_eq_getElem _⟩
      obtain ⟨b, o, rfl, hbl, c0, c1, c2, c3, c4⟩ := (H.out.below hbw (Nat.le_refl _)).row hx
      have hb1 := hbw.alloc hbw.size (.cells #[.string x.t, .string x.l, .int .i64 x.s, .int .i64 x.f, .int .i64 x.u] 27)
      have KB := Lib.hid (fun W hW => nm_box (w := wr) (W := W) (x := x) (t := 27) hW)
      have HB := Lib.hid hb1
      have HX := Lib.hid hx
      have CX := Lib.hid (fun W => CO.out x W)
      have HO1 := Lib.hid (HO.out.alloc (.cells #[.string x.t, .string x.l, .int .i64 x.s, .int .i64 x.f, .int .i64 x.u] 27))
      have u1 : (0 : Int) ≤ (k : Int) := Int.natCast_nonneg _
      have u2 : (k : Int) < (n : Int) := by omega
      clear hx hb1
      cases hf : ofB l x
      · rw [hf] at CX
        have HST := Lib.hid (oy_no HX.out hf)
        clear hf
        go_wp2_with fail
        refine (CX.out _).mono ?_
        rintro e w2 ⟨rfl, hb2⟩
        have hbt := bstep9 HB.out HB.out.size hb2
        have HO2 : Hid (w2.ownsRow w.heap.size 25 2 (.slice B m d) m (spanV (oyL (xs.take (k + 1)) l))) := Lib.hid (by rw [HST.out]; exact kept9 HO1.out hb2)
        clear hb2
        go_wp2_with fail
        go_roundw
        case rel => exact ⟨k + 1, m, d, B, by omega, by go_num, rfl, Lib.hid (by have := HM.out; omega), HO2, hbt⟩
        case measure => simp [intOf]; omega
      · rw [hf] at CX
        have HST := Lib.hid (oy_yes HX.out hf)
        clear hf
        go_wp2_with fail
        refine (CX.out _).mono ?_
        rintro e w2 ⟨rfl, hb2⟩
        have hbt := bstep9 HB.out HB.out.size hb2
        have hown := kept9 HO1.out hb2
        obtain ⟨k0, k1, k2, k3, k4⟩ := KB.out w2 hb2
        have hmk := HM.out
        clear hb2 k0 k1 k2
        go_wp2_with (at_builtin; refine wpList_append_own _ rfl _ _ 62 rfl w.heap.size 25 i0 _ 2 16 Tryz.underlying62 hi0 hz0 hz1 hz2 rfl (by decide) _ _ _ rfl (hown.alloc _) ⟨w2.heap.size, 0, none⟩ 1 1 [.int .i64 x.f, .int .i64 x.u] rfl rfl (two_cells _ _ _ _) (two_one _ _) ?d3 ?d4 ?d5 ?_)
        case d3 => unfold maxLen; omega
        case d4 => omega
        case d5 => have := hbt.size; simp; omega
        intro v' w3 hown3 hgrow3 _
        rw [show [Value.int .i64 x.f, .int .i64 x.u] = spanV [(x.f, x.u)] from (spanV_one (x.f, x.u)).symm, ← spanV_app] at hown3
        have hb3 : Below w.heap.size w w3 := (hbt.alloc hbt.size _).grown hgrow3 (by have := hbt.size; simp; omega) (fun x hx => (hown.lt x hx).1)
        have HO3 : Hid (w3.ownsRow w.heap.size 25 2 v' (m + 1) (spanV (oyL (xs.take (k + 1)) l))) := Lib.hid (by rw [HST.out]; exact hown3)
        obtain ⟨g', c', rfl, _, _⟩ := World.ownsRow.form HO3.out (by omega)
        clear hown3 hown hgrow3 k3 k4
        go_wp2_with fail
        go_roundw
        case rel => exact ⟨k + 1, m + 1, c', some ⟨g', 0, none⟩, by omega, by go_num, rfl, Lib.hid (by omega), HO3, hb3⟩
        case measure => simp [intOf]; omega
    · obtain rfl : k = n := by omega
      have HU : Hid (xs.take k = xs) := Lib.hid (List.take_of_length_le (by have := HN.out; omega))
      have hmk := HM.out
      have CY := Lib.hid (cYearsOf B m d w.heap.size (oyL xs l) wr (by omega) (by have := HO.out; rwa [HU.out] at this) (oy_valid HNB.out.2))
      go_wp2_with fail
      refine CY.out.mono ?_
      rintro e w2 ⟨D, d2, rfl, hown, hbel⟩
      have hbt := hbel w w.heap.size hbw (Nat.le_refl _) hbw.size
      have HO2 := Lib.hid (World.ownsRow.mono hown hbw.size)
      clear hown hbel
      go_wp2_with fail
      go_ret2
      exact ⟨D, _, d2, by rw [HC.out]; rfl, by rw [HZ.out]; exact HO2.out, hbt⟩
end Go.Proofs.YthlilfdndpnbkaaGreatDoor
