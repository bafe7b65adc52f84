/-
  The contract of impl.NearestWords.
-/
import Derived.Test.YtmbahbnadkmnkaaNearI
import Derived.Test.YtmbahbnadkmnkaaSndF
import Derived.Test.YtmbahbnadkmnkaaEdImpl
import Derived.Test.YtmbahbnadkmnkaaMatch
import Derived.Deep.RegionWith
namespace Go.Proofs.Ytmbahbnadkmnkaa
set_option linter.unusedVariables false
open Go.RowKit

/-- The distance of the word at a place (modulo the number of words). -/
def dstK (ls : List ByteArray) (s : ByteArray) (k : Nat) : Int := dis (ls.getD (k % ls.length) ByteArray.empty) s (ls.getD (k % ls.length) ByteArray.empty).size s.size
theorem dstK_nn (ls : List ByteArray) (s : ByteArray) (k : Nat) : 0 ≤ dstK ls s k := (dis_bd _ _ _ _).1
theorem dstK_mod (ls : List ByteArray) (s : ByteArray) : (fun k => dstK ls s (k % ls.length)) = dstK ls s := by
  funext k; unfold dstK; rw [Nat.mod_mod]
theorem dstK_at {ls : List ByteArray} {s x : ByteArray} {k : Nat} (h : ls[k]? = some x) : dstK ls s k = dis x s x.size s.size := by
  have hk := (List.getElem?_eq_some_iff.1 h).1
  unfold dstK
  rw [Nat.mod_eq_of_lt hk, List.getD_eq_getElem?_getD, h]; rfl
def nerC (ls : List ByteArray) (s : ByteArray) (most : Int) : Int := if codeW ls [s] ≠ 0 then codeW ls [s] else if most < 0 ∨ 16 < most then 2 else 0
def nerZ (ls : List ByteArray) (s : ByteArray) (most : Int) : List Int := if nerC ls s most = 0 then natI (nearS (dstK ls s) ls.length (most.toNat + 1)) else []
theorem nerC_bad {ls : List ByteArray} {s : ByteArray} {most : Int} (h : codeW ls [s] ≠ 0) : nerC ls s most = codeW ls [s] := by unfold nerC; rw [if_pos h]
theorem nerC_range {ls : List ByteArray} {s : ByteArray} {most : Int} (h : codeW ls [s] = 0) (h2 : most < 0 ∨ 16 < most) : nerC ls s most = 2 := by unfold nerC; rw [if_neg (by simp [h]), if_pos h2]
theorem nerC_ok {ls : List ByteArray} {s : ByteArray} {most : Int} (h : codeW ls [s] = 0) (h2 : ¬ (most < 0 ∨ 16 < most)) : nerC ls s most = 0 := by unfold nerC; rw [if_neg (by simp [h]), if_neg h2]
theorem nerZ_no {ls : List ByteArray} {s : ByteArray} {most : Int} (h : nerC ls s most ≠ 0) : nerZ ls s most = [] := by unfold nerZ; rw [if_neg h]
theorem nerZ_yes {ls : List ByteArray} {s : ByteArray} {most : Int} (h : nerC ls s most = 0) : nerZ ls s most = natI (nearS (dstK ls s) ls.length (most.toNat + 1)) := by unfold nerZ; rw [if_pos h]
theorem natI_len (l : List Nat) : (natI l).length = l.length := by unfold natI; exact List.length_map ..
theorem natI_snoc (l : List Nat) (k : Nat) : natI l ++ [(k : Int)] = natI (l ++ [k]) := by unfold natI; rw [List.map_append]; rfl
theorem nerC_zero {ls : List ByteArray} {s : ByteArray} {most : Int} (h : nerC ls s most = 0) : codeW ls [s] = 0 := by
  by_cases h1 : codeW ls [s] = 0
  · exact h1
  · rw [nerC_bad h1] at h; exact h
theorem nerZ_len (ls : List ByteArray) (s : ByteArray) (most : Int) : (nerZ ls s most).length ≤ 20 := by
  by_cases h : nerC ls s most = 0
  · rw [nerZ_yes h, natI_len]
    have h1 := nearS_len (dstK ls s) (dstK_nn ls s) ls.length (most.toNat + 1)
    have h2 := (codeW_zero (nerC_zero h)).2.2
    omega
  · rw [nerZ_no h]; simp
theorem dsL_at {D : Nat → Int} {N k : Nat} (h : k < N) : ((List.range N).map D)[k]? = some (D k) := by simp [h]
theorem dsL_len (D : Nat → Int) (N : Nat) : ((List.range N).map D).length = N := by simp

theorem cStable_none (A : Option Addr) (c : Nat) (f : Value) (w : World) :
    Calls Try.prog 45 #[.slice A 0 c, f] w fun e w' => e = .returned (.tuple #[]) ∧ w = w' := by
  have CN : Hid (∀ W, Calls Try.prog 79 #[.slice A 0 c, .int .i64 0, .int .i64 0, f] W fun e w' => e = .returned (.tuple #[]) ∧ W = w') := Lib.hid (fun W => cIns_none A 0 c 0 0 f (by omega) (by omega) W)
  have CS : Hid (Calls Try.prog 67 #[.slice A 0 c, .int .i64 0, f] w fun e w' => e = .returned (.tuple #[]) ∧ w = w') := Lib.hid (by
    go_enter Try.func67, Try.ntmps67
    go_wp2
    refine wp_loop_rounds 1 ?_
    rw [rounds_succ]
    go_wp2_with fail
    refine (CN.out _).mono ?_
    rintro e w' ⟨rfl, rfl⟩
    go_wp2_with fail
    refine wp_loop_rounds 1 ?_
    rw [rounds_succ]
    go_wp2_with fail
    go_end0
    exact ⟨rfl, rfl⟩)
  go_enter Try.func45, Try.ntmps45
  go_wp2_with fail
  refine CS.out.mono ?_
  rintro e w1 ⟨rfl, rfl⟩
  go_wp2_with fail
  go_end0
  exact ⟨rfl, rfl⟩

set_option maxHeartbeats 2000000 in
set_option maxRecDepth 100000 in
theorem cNear_impl (A1 : Option Addr) (n1 c1 : Nat) (ls : List ByteArray) (s : ByteArray) (most : Int) (w : World) (hb1 : n1 ≤ maxLen) (hs1 : ∀ x ∈ ls, x.size ≤ maxLen) (h1 : TextAt w w.heap.size A1 n1 ls) (hs : s.size ≤ maxLen) :
    Calls Try.prog 13 #[.slice A1 n1 c1, .string s, .int .i64 most] w (OutI (nerZ ls s most) (nerC ls s most) w) := by
  obtain ⟨i0, hi0, hz0, hz1, hz2⟩ := info_parts info_i64
  have hB0 : Below w.heap.size w (w.alloc (.cells #[.string s] 9)) := (Below.refl _ _).alloc (Nat.le_refl _) _
  have CF := Lib.hid (cCodeW A1 (some ⟨w.heap.size, 0, none⟩) n1 c1 1 1 _ _ ls [s] (w.alloc (.cells #[.string s] 9)) hb1 hs1 ((h1.below hB0 (Nat.le_refl _)).more hB0.size) (by unfold maxLen; omega) (by simpa using hs) (text_one w s))
  have HB0 := Lib.hid hB0
  have HL := Lib.hid h1.1
  have HT1 : Hid (∀ W, Below w.heap.size w W → TextAt W w.heap.size A1 n1 ls) := Lib.hid (fun W hW => h1.below hW (Nat.le_refl _))
  unfold maxLen at hb1
  clear h1 hB0
  by_cases h0 : codeW ls [s] = 0
  · rw [h0] at CF
    by_cases hr : most < 0 ∨ 16 < most
    · have hc := nerC_range h0 hr
      rw [nerZ_no (by rw [hc]; decide), hc]
      clear h0 hc
      rcases Int.lt_or_le most 0 with hm | hm
      · clear hr
        go_enter Try.func13, Try.ntmps13
        go_wp2_with fail
        refine CF.out.mono ?_
        rintro e w' ⟨rfl, rfl⟩
        go_wp2_with fail
        go_ret2
        exact OutI.nil rfl HB0.out
      · have hm2 : 16 < most := by omega
        clear hr
        go_enter Try.func13, Try.ntmps13
        go_wp2_with fail
        refine CF.out.mono ?_
        rintro e w' ⟨rfl, rfl⟩
        go_wp2_with fail
        go_ret2
        exact OutI.nil rfl HB0.out
    have hc := nerC_ok h0 hr
    rw [nerZ_yes hc, hc]
    have hh := codeW_zero h0
    have hn20 : n1 ≤ 20 := by rw [HL.out]; exact hh.2.2
    have hsw : wordB s = true := by rw [← wordsB_one]; exact hh.2.1
    have CW := Lib.hid (fun x W (hx : x ∈ ls) => by
      have h2 := wordsB_mem hh.1 hx
      have h3 := word_size x h2
      have h4 := word_size s hsw
      exact cEd_impl_yes x s W (by unfold maxLen; omega) hs h3.2 h4.2 (by unfold twoE; rw [h2, hsw]; rfl))
    have HDA := Lib.hid (fun k x => dstK_at (ls := ls) (s := s) (x := x) (k := k))
    have HDN := Lib.hid (dstK_nn ls s)
    have HDM := Lib.hid (dstK_mod ls s)
    obtain ⟨D, hD⟩ : ∃ D, D = dstK ls s := ⟨_, rfl⟩
    rw [← hD] at HDA HDN HDM ⊢
    rw [← HL.out] at HDM ⊢
    have hm0 : 0 ≤ most := by omega
    have hm1 : most ≤ 16 := by omega
    have hd1 : decide (most < 0) = false := decide_eq_false (by omega)
    have hd2 : decide (16 < most) = false := decide_eq_false (by omega)
    clear h0 hc hh hsw hD hr
    go_enter Try.func13, Try.ntmps13
    go_wp2_with fail
    refine CF.out.mono ?_
    rintro e w' ⟨rfl, rfl⟩
    obtain ⟨w1, hw1⟩ : ∃ w1, w1 = w.alloc (.cells #[.string s] 9) := ⟨_, rfl⟩
    rw [← hw1] at HB0 ⊢
    clear hw1 CF
    go_wp2_with (at_make; refine wpList_make_full _ rfl _ _ 27 rfl w1.heap.size 2 i0 _ 1 Try.underlying27 hi0 hz0 hz1 _ _ _ _ n1 rfl rfl (by simp) (by simp) ?b2 ?b3 (Nat.le_refl _) ?_)
    case b2 => rw [hz2]; omega
    case b3 => unfold maxLen; omega
    intro w2 hown2 hgrow2
    rw [copyI_zero ((List.range n1).map D)] at hown2
    have HO2 := Lib.hid hown2
    have HB2 : Hid (Below w.heap.size w w2) := Lib.hid (HB0.out.grown hgrow2 HB0.out.size (fun k h => by cases h))
    have HG2 : Hid (w1.heap.size < w2.heap.size) := Lib.hid (hown2.lt _ rfl).2
    clear hown2 hgrow2
    go_wp2_with fail
    have HO3 : Hid ((w2.alloc (.cells #[.slice (some ⟨w1.heap.size, 0, none⟩) n1 n1] 27)).ownsRow w1.heap.size 2 1 (.slice (some ⟨w1.heap.size, 0, none⟩) n1 n1) n1 (copyI ((List.range n1).map D) n1 0)) := Lib.hid (HO2.out.alloc _)
    have HB3 : Hid (Below w.heap.size w (w2.alloc (.cells #[.slice (some ⟨w1.heap.size, 0, none⟩) n1 n1] 27))) := Lib.hid (HB2.out.alloc HB2.out.size _)
    have HX3 : Hid ((w2.alloc (.cells #[.slice (some ⟨w1.heap.size, 0, none⟩) n1 n1] 27)).cell? ⟨w2.heap.size, 0, none⟩ = some (.slice (some ⟨w1.heap.size, 0, none⟩) n1 n1)) := Lib.hid (new_one w2 _ _)
    have HS3 : Hid (w2.heap.size + 1 ≤ (w2.alloc (.cells #[.slice (some ⟨w1.heap.size, 0, none⟩) n1 n1] 27)).heap.size) := Lib.hid (by simp)
    have HW : Hid (w.heap.size ≤ w1.heap.size) := Lib.hid HB0.out.size
    obtain ⟨w3, hw3⟩ : ∃ w3, w3 = w2.alloc (.cells #[.slice (some ⟨w1.heap.size, 0, none⟩) n1 n1] 27) := ⟨_, rfl⟩
    rw [← hw3] at HO3 HB3 HX3 HS3 ⊢
    obtain ⟨gd, hgd⟩ : ∃ gd, gd = w1.heap.size := ⟨_, rfl⟩
    obtain ⟨bx, hbx⟩ : ∃ bx, bx = w2.heap.size := ⟨_, rfl⟩
    rw [← hgd] at HO3 HX3 HG2 HW ⊢
    rw [← hbx] at HX3 HS3 HG2 ⊢
    clear HO2 HB2 hw3 hgd hbx
    go_loopw [9, 11, 12, 31] (fun v p q i wr => ∃ (k m : Nat) (v1 p1 q1 : Value), v1 = v ∧ p1 = p ∧ q1 = q ∧ k ≤ n1 ∧ m ≤ k ∧ i = .int .i64 k ∧ Hid (m = (nearU D most k).length) ∧ Hid (wr.ownsRow (bx + 1) 2 1 v1 m (intV (natI (nearU D most k)))) ∧ Hid (wr.ownsRow gd 2 1 (.slice (some ⟨gd, 0, none⟩) n1 n1) n1 (copyI ((List.range n1).map D) n1 k)) ∧ Hid (wr.cell? ⟨bx, 0, none⟩ = some (.slice (some ⟨gd, 0, none⟩) n1 n1)) ∧ Hid (Below w.heap.size w wr) ∧ Hid (bx + 1 ≤ wr.heap.size)) (fun _ _ _ i _ => n1 - (intOf i).toNat)
    case atStart => exact ⟨0, 0, _, _, _, rfl, rfl, rfl, Nat.zero_le _, Nat.le_refl _, rfl, Lib.hid rfl, Lib.hid (World.ownsRow_nil _ _ _ _), HO3, HX3, HB3, HS3⟩
    case round =>
      clear HO3 HX3 HB3 HS3
      obtain ⟨k, m, v, p, q, rfl, rfl, rfl, hk, hmk, rfl, HM, HN, HO, HX, HB, HS⟩ := hrel
      by_cases hlt : k < n1
      · obtain ⟨x, hx⟩ : ∃ x, ls[k]? = some x := ⟨ls[k]'(by have := HL.out; omega), List.getElem?_eq_getElem _⟩
        obtain ⟨b, o, rfl, hbl, hcc⟩ := (HT1.out wr HB.out).2 (by omega)
        have hcx := hcc k x hx
        have hdk := HDA.out k x hx
        have CX := Lib.hid (fun W => CW.out x W (List.mem_of_getElem? hx))
        rw [← hdk] at CX
        have HDK := Lib.hid (dsL_at (D := D) hlt)
        have HYES : Hid (D k ≤ most → nearU D most (k + 1) = nearU D most k ++ [k]) := Lib.hid nearU_yes
        have HNO : Hid (¬ D k ≤ most → nearU D most (k + 1) = nearU D most k) := Lib.hid nearU_no
        obtain ⟨z, hz⟩ : ∃ z, z = D k := ⟨_, rfl⟩
        rw [← hz] at CX HDK HYES HNO
        clear hx hcc hz hdk
        have kx : wr.cell? ⟨bx, 0, none⟩ = some (.slice (some ⟨gd, 0, none⟩) n1 n1) := HX.out
        have i1 : (k : Int) < (n1 : Int) := by omega
        have i2 : (0 : Int) ≤ (k : Int) := Int.natCast_nonneg _
        go_wp2_with fail
        go_region_with ((go_at_call 19; refine (CX.out _).mono ?_; rintro e w4 ⟨rfl, hb4⟩; have hb5 : Below wr.heap.size wr w4 := ⟨hb4.os, hb4.tape, hb4.output, hb4.size, hb4.block⟩; clear hb4; have kx4 : w4.cell? ⟨bx, 0, none⟩ = some (.slice (some ⟨gd, 0, none⟩) n1 n1) := (hb5.cell (p := ⟨bx, 0, none⟩) (by have := HS.out; show bx < _; omega)).trans kx; have hO4 := Lib.hid (ownsRow_keep HO.out hb5); have hN4 := Lib.hid (ownsRow_keep HN.out hb5); have hB4 := Lib.hid (HB.out.trans (hb5.mono HB.out.size)); have hS4 := Lib.hid (Nat.le_trans HS.out hb5.size); have f0 := hO4.out.frozenAt k; have c0 := hO4.out.cellAt k (by omega); obtain ⟨v0, d0⟩ : ∃ u, w4.cell? ⟨gd, k, none⟩ = some u := ⟨_, c0.trans (List.getElem?_eq_getElem (by have := hO4.out.1; omega))⟩; clear c0 hb5))
        all_goals
          have hst := hO4.out.stored k (.int .i64 z)
          have hG5 := hst.2
          have hO5 := hst.1
          rw [copyI_step _ _ _ _ (dsL_len D n1).symm HDK.out] at hO5
          obtain ⟨w5, hw5⟩ : ∃ w5, w5 = w4.setCell ⟨gd, k, none⟩ (.int .i64 z) := ⟨_, rfl⟩
          rw [← hw5] at hG5 hO5 ⊢
          have HN5 : Hid (w5.ownsRow (bx + 1) 2 1 v m (intV (natI (nearU D most k)))) := Lib.hid (hN4.out.kept hG5 (.inr (fun e => by have h1 := (hN4.out.lt gd e).1; have := HG2.out; omega)))
          have kx5 : w5.cell? ⟨bx, 0, none⟩ = some (.slice (some ⟨gd, 0, none⟩) n1 n1) := (World.cell?_of_block (w := w4) (a := ⟨bx, 0, none⟩) (hG5.block bx (by have := hS4.out; omega) (fun e => by injection e with e; have := HG2.out; omega))).trans kx4
          have HX5 := Lib.hid kx5
          have HB5 : Hid (Below w.heap.size w w5) := Lib.hid (hB4.out.grown hG5 hB4.out.size (fun x hx => by injection hx with hx; have := HW.out; omega))
          have HS5 : Hid (bx + 1 ≤ w5.heap.size) := Lib.hid (Nat.le_trans hS4.out hG5.size)
          have cz : w5.cell? ⟨gd, k, none⟩ = some (.int .i64 z) := by
            have h1 := hO5.cellAt k (by omega)
            have h2 : (copyI ((List.range n1).map D) n1 (k + 1))[k]? = some (.int .i64 z) := by
              unfold copyI
              rw [List.getElem?_append_left (by rw [intV_len, List.length_take, dsL_len]; omega)]
              exact intV_at _ _ _ (by rw [List.getElem?_take, if_pos (Nat.lt_succ_self k)]; exact HDK.out)
            exact h1.trans h2
          have HO5 := Lib.hid hO5
          clear hst hG5 hO5 hw5 hO4 hN4 kx4 hB4 hS4 f0 d0 HO HN HX HB HS kx
          by_cases hzm : z ≤ most
          · have HU := Lib.hid (HYES.out hzm)
            go_wp2_with (first
              | (at_builtin; refine wpList_append_own _ rfl _ _ 27 rfl (bx + 1) 2 i0 _ 1 8 Try.underlying27 hi0 hz0 hz1 hz2 rfl (by decide) _ _ _ rfl (World.ownsRow.alloc (w := w5) HN5.out _) ⟨w5.heap.size, 0, none⟩ 1 1 [.int .i64 (k : Int)] rfl rfl ?c1 ?c2 ?c3 ?c4 ?c5 ?_))
            case c1 => exact one_cell' _ _ _ (new_one w5 _ _)
            case c2 => intro u hu; simp at hu; subst hu; rfl
            case c3 => unfold maxLen; omega
            case c4 => omega
            case c5 => have := HS5.out; simp; omega
            intro v' w9 hown9 hgrow9 _
            rw [intV_snoc, natI_snoc, ← HU.out] at hown9
            have HN9 := Lib.hid hown9
            have hb5s := HS5.out
            have HB9 : Hid (Below w.heap.size w w9) := Lib.hid ((HB5.out.alloc HB5.out.size _).grown hgrow9 (by have := HB5.out.size; simp; omega) (fun x hx => by have h1 := (HN5.out.lt x hx).1; have := HW.out; have := HG2.out; omega))
            have HO9 : Hid (w9.ownsRow gd 2 1 (.slice (some ⟨gd, 0, none⟩) n1 n1) n1 (copyI ((List.range n1).map D) n1 (k + 1))) := Lib.hid ((World.ownsRow.alloc (w := w5) HO5.out _).kept hgrow9 (.inr (fun e => by have h1 := (HN5.out.lt gd e.symm).1; have := HG2.out; omega)))
            have HX9 : Hid (w9.cell? ⟨bx, 0, none⟩ = some (.slice (some ⟨gd, 0, none⟩) n1 n1)) := Lib.hid ((World.cell?_of_block (a := ⟨bx, 0, none⟩) (hgrow9.block bx (by simp; omega) (fun e => by have h1 := (HN5.out.lt bx e.symm).1; omega))).trans (((Below.refl w5.heap.size w5).alloc (Nat.le_refl _) _).cell (p := ⟨bx, 0, none⟩) (by show bx < _; omega) |>.trans HX5.out))
            have HS9 : Hid (bx + 1 ≤ w9.heap.size) := Lib.hid (by have h1 := hgrow9.size; simp at h1; omega)
            have HM9 : Hid (m + 1 = (nearU D most (k + 1)).length) := Lib.hid (by rw [HU.out, List.length_append, ← HM.out]; rfl)
            clear hown9 hgrow9 cz kx5
            go_wp2_with fail
            go_roundw
            case rel => exact ⟨k + 1, m + 1, v', _, _, rfl, rfl, rfl, by omega, by omega, by go_num, HM9, HN9, HO9, HX9, HB9, HS9⟩
            case measure => simp [intOf]; omega
          · have HU := Lib.hid (HNO.out (by omega))
            have hzm2 : most < z := by omega
            go_wp2_with fail
            go_roundw
            case rel => exact ⟨k + 1, m, v, _, _, rfl, rfl, rfl, by omega, by omega, by go_num, Lib.hid (by rw [HU.out]; exact HM.out), Lib.hid (by rw [HU.out]; exact HN5.out), HO5, HX5, HB5, HS5⟩
            case measure => simp [intOf]; omega
      · obtain rfl : k = n1 := by omega
        rcases Nat.eq_zero_or_pos m with rfl | hmp
        · have hnil : nearU D most k = [] := List.eq_nil_of_length_eq_zero HM.out.symm
          have hres : nearS D k (most.toNat + 1) = [] := by
            have h1 := near_eq D HDN.out k most.toNat
            rw [show ((most.toNat : Nat) : Int) = most by omega, hnil] at h1
            have h2 := sort_size (ltD D) ([] : List Nat).toArray
            have h3 := congrArg List.length h1
            rw [Array.length_toList, h2] at h3
            exact List.eq_nil_of_length_eq_zero h3.symm
          have hv : ∃ A c, v = .slice A 0 c := by
            rcases HN.out.2 with ⟨e, _⟩ | ⟨g, cap, cur, e, _⟩
            · exact ⟨none, 0, e⟩
            · exact ⟨_, cap, e⟩
          obtain ⟨A, c, rfl⟩ := hv
          have HN2 : Hid (wr.ownsRow (bx + 1) 2 1 (.slice A 0 c) 0 (intV (natI (nearS D k (most.toNat + 1))))) := Lib.hid (by rw [hres]; have := HN.out; rw [hnil] at this; exact this)
          clear hnil hres
          go_wp2_with (go_at_call 45; refine (cStable_none _ _ _ _).mono ?_; rintro e w' ⟨rfl, rfl⟩)
          go_ret2
          exact OutI.of rfl HN2.out (by have := HW.out; have := HG2.out; omega) HB.out
        · obtain ⟨g, cap, rfl, hg1, hg2⟩ := HN.out.form hmp
          have hn0 : 0 < k := by omega
          have hall : ∀ x ∈ nearU D most k, x < k := fun x hx => (nearU_mem hx).1
          have hOw : wr.ownsRow (bx + 1) 2 1 (.slice (some ⟨g, 0, none⟩) m cap) m ((nearU D most k).toArray.toList.map (encN k)) := by
            rw [List.toList_toArray, encN_list hall]; exact HN.out
          have hrow : ∀ j, j < k → wr.cell? ⟨gd, j, none⟩ = some (.int .i64 (D j)) := fun j hj => by
            have h1 := HO.out
            rw [copyI_all _ _ (dsL_len D k).symm] at h1
            exact (h1.cellAt j (by omega)).trans (intV_at _ _ _ (dsL_at hj))
          have CS := cStable bx gd g k m cap (bx + 1) D (nearU D most k).toArray wr (by omega) hn0 (by rw [List.size_toArray]; exact HM.out.symm) (by have := HS.out; omega) (by have := HS.out; have := HG2.out; omega) (by omega) (by have := HG2.out; omega) HX.out hrow (by omega) hOw
          have h1 := near_eq D HDN.out k most.toNat
          rw [show ((most.toNat : Nat) : Int) = most by omega] at h1
          rw [HDM.out, h1, encN_list (fun x hx => (nearS_mem hx).1)] at CS
          have CS2 := Lib.hid CS
          clear hall hOw hrow CS h1
          go_wp2_with (go_at_call 45; refine CS2.out.mono ?_; rintro e w6 ⟨rfl, hO6, hG6⟩; have HO6 := Lib.hid hO6; have HG6 := Lib.hid hG6; clear hO6 hG6)
          go_ret2
          exact OutI.of rfl HO6.out (by have := HW.out; have := HG2.out; omega) (HB.out.grown HG6.out HB.out.size (fun x hx => by injection hx with hx; have := HW.out; have := HG2.out; omega))
  · have hc := nerC_bad (most := most) h0
    rw [nerZ_no (by rw [hc]; exact h0), hc]
    obtain ⟨d, hd⟩ : ∃ d, d = codeW ls [s] := ⟨_, rfl⟩
    rw [← hd] at CF h0 ⊢
    have d1 : (d != 0) = true := by simp; exact h0
    have d2 : (d == 0) = false := by simp; exact h0
    clear h0 hd hc
    go_enter Try.func13, Try.ntmps13
    go_wp2_with fail
    refine CF.out.mono ?_
    rintro e w' ⟨rfl, rfl⟩
    go_wp2_with fail
    go_ret2
    exact OutI.nil rfl HB0.out
end Go.Proofs.Ytmbahbnadkmnkaa
