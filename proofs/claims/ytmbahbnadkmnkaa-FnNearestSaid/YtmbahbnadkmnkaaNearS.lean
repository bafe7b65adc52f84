/-
  The contract of the reference's NearestWords.
-/
import Derived.Test.YtmbahbnadkmnkaaNear
import Derived.Test.YtmbahbnadkmnkaaSndS
import Derived.Test.YtmbahbnadkmnkaaEdSpec
import Derived.Test.YtmbahbnadkmnkaaSpI
namespace Go.Proofs.Ytmbahbnadkmnkaa
set_option linter.unusedVariables false
open Go.RowKit

def zeros26 : List Int := List.replicate 26 0
theorem zeros26_tab : tabB zeros26 = true := by decide
theorem code7_zeros (ls : List ByteArray) (s : ByteArray) : code7 zeros26 ls [s] = codeW ls [s] := code7_yes zeros26_tab
theorem made_zeros : (madeCells #[Value.int .i64 0] 26).toList = intV zeros26 := (copyI_zero zeros26 26).trans (by simp [copyI, intV, zeros26])

set_option maxHeartbeats 2000000 in
set_option maxRecDepth 100000 in
theorem cNear_spec (A1 : Option Addr) (n1 c1 : Nat) (ls : List ByteArray) (s : ByteArray) (most : Int) (w : World) (hb1 : n1 ≤ maxLen) (hs1 : ∀ x ∈ ls, x.size ≤ maxLen) (h1 : TextAt w w.heap.size A1 n1 ls) (hs : s.size ≤ maxLen) :
    Calls Try.prog 14 #[.slice A1 n1 c1, .string s, .int .i64 most] w (OutI (nerZ ls s most) (nerC ls s most) w) := by
  obtain ⟨i0, hi0, hz0, hz1, hz2⟩ := info_parts info_i64
  have HT1 : Hid (∀ W, Below w.heap.size w W → TextAt W w.heap.size A1 n1 ls) := Lib.hid (fun W hW => h1.below hW (Nat.le_refl _))
  have CC := Lib.hid (fun W A B (hW : Below w.heap.size w W) (hN : NumAt W B A 26 zeros26) => by
    have := cCode7 A A1 26 26 n1 c1 B _ zeros26 ls s W (by unfold maxLen; omega) hN hb1 hs1 (h1.below hW (Nat.le_refl _)) hs
    rw [code7_zeros] at this
    exact this)
  have HL := Lib.hid h1.1
  unfold maxLen at hb1
  clear h1
  by_cases h0 : codeW ls [s] = 0
  · rw [h0] at CC
    by_cases hr : most < 0 ∨ 16 < most
    · have hc := nerC_range h0 hr
      rw [nerZ_no (by rw [hc]; decide), hc]
      have CI := Lib.hid (fun W => cIn_any most 0 16 W)
      rw [show (decide (0 ≤ most) && decide (most ≤ 16)) = false from by rw [← Bool.decide_and]; exact decide_eq_false (by omega)] at CI
      clear h0 hc hr
      go_enter Try.func14, Try.ntmps14
      go_wp2_with (at_make; refine wpList_make_full _ rfl _ _ 27 rfl w.heap.size 2 i0 _ 1 Try.underlying27 hi0 hz0 hz1 _ _ _ _ 26 rfl rfl (by simp) (by simp) ?b2 ?b3 (Nat.le_refl _) ?_)
      case b2 => rw [hz2]; omega
      case b3 => unfold maxLen; omega
      intro w1 hown1 hgrow1
      rw [made_zeros] at hown1
      have hB1 : Below w.heap.size w w1 := (Below.refl _ _).grown hgrow1 (Nat.le_refl _) (fun k h => by cases h)
      have CC1 := Lib.hid (CC.out w1 _ _ hB1 (own_num hown1))
      have HB1 := Lib.hid hB1
      clear hown1 hgrow1 hB1 CC
      go_wp2_with fail
      refine CC1.out.mono ?_
      rintro e w' ⟨rfl, rfl⟩
      go_wp2_with fail
      refine (CI.out _).mono ?_
      rintro e w' ⟨rfl, rfl⟩
      go_wp2_with fail
      go_ret2
      exact OutI.nil rfl HB1.out
    have hc := nerC_ok h0 hr
    rw [nerZ_yes hc, hc]
    have CI := Lib.hid (fun W => cIn_any most 0 16 W)
    rw [show (decide (0 ≤ most) && decide (most ≤ 16)) = true from by rw [← Bool.decide_and]; exact decide_eq_true (by omega)] at CI
    have hh := codeW_zero h0
    have hn20 : n1 ≤ 20 := by rw [HL.out]; exact hh.2.2
    have hsw : wordB s = true := by rw [← wordsB_one]; exact hh.2.1
    have CW := Lib.hid (fun x W (hx : x ∈ ls) => by
      have h3 := word_size x (wordsB_mem hh.1 hx)
      have h4 := word_size s hsw
      exact cDistance x s W h3.2 h4.2)
    have HDA := Lib.hid (fun k x => dstK_at (ls := ls) (s := s) (x := x) (k := k))
    obtain ⟨D, hD⟩ : ∃ D, D = dstK ls s := ⟨_, rfl⟩
    rw [← hD] at HDA ⊢
    rw [← HL.out]
    have hm0 : 0 ≤ most := by omega
    have hm1 : most ≤ 16 := by omega
    obtain ⟨M, hM⟩ : ∃ M : Nat, (M : Int) = most := ⟨most.toNat, by omega⟩
    subst hM
    have hM16 : M ≤ 16 := by omega
    clear h0 hc hh hsw hD hr
    go_enter Try.func14, Try.ntmps14
    go_wp2_with (at_make; refine wpList_make_full _ rfl _ _ 27 rfl w.heap.size 2 i0 _ 1 Try.underlying27 hi0 hz0 hz1 _ _ _ _ 26 rfl rfl (by simp) (by simp) ?b2 ?b3 (Nat.le_refl _) ?_)
    case b2 => rw [hz2]; omega
    case b3 => unfold maxLen; omega
    intro w1 hown1 hgrow1
    rw [made_zeros] at hown1
    have hB1 : Below w.heap.size w w1 := (Below.refl _ _).grown hgrow1 (Nat.le_refl _) (fun k h => by cases h)
    have CC1 := Lib.hid (CC.out w1 _ _ hB1 (own_num hown1))
    have HB1 := Lib.hid hB1
    clear hown1 hgrow1 hB1 CC
    go_wp2_with fail
    refine CC1.out.mono ?_
    rintro e w' ⟨rfl, rfl⟩
    go_wp2_with fail
    refine (CI.out _).mono ?_
    rintro e w' ⟨rfl, rfl⟩
    go_wp2_with fail
    have HO1 : Hid ((w1.alloc (.cells #[] 2)).ownsRow w.heap.size 2 1 (.slice (some ⟨w1.heap.size, 0, none⟩) 0 0) 0 (intV (natI (nearS D n1 0)))) := Lib.hid (rowBase (World.ownsRow_lit (e := 2) (base := w1.heap.size) (size := 1) w1 #[] 0 (Nat.le_refl _) (by decide) rfl) HB1.out.size)
    have HB2 : Hid (Below w.heap.size w (w1.alloc (.cells #[] 2))) := Lib.hid (HB1.out.alloc HB1.out.size _)
    clear CC1 CI
    go_loopw [9, 10, 11] (fun v d q wr => ∃ (k m : Nat) (v1 q1 : Value), v1 = v ∧ q1 = q ∧ k ≤ M + 1 ∧ m ≤ k * 20 ∧ d = .int .i64 k ∧ Hid (wr.ownsRow w.heap.size 2 1 v1 m (intV (natI (nearS D n1 k)))) ∧ Hid (Below w.heap.size w wr)) (fun _ d _ _ => M + 1 - (intOf d).toNat)
    case atStart => exact ⟨0, 0, _, _, rfl, rfl, by omega, by omega, rfl, HO1, HB2⟩
    case round =>
      clear HO1 HB2
      obtain ⟨k, m, v, q, rfl, rfl, hk, hm, rfl, HO, HB⟩ := hrel
      by_cases hlt : k ≤ M
      · have i1 : (k : Int) ≤ (M : Int) := by omega
        have HO2 : Hid (wr.ownsRow w.heap.size 2 1 v m (intV (natI (nearS D n1 k ++ atD D k 0)))) := Lib.hid (by rw [atD_zero, List.append_nil]; exact HO.out)
        go_wp2_with fail
        go_loopw [9, 11] (fun v i wr => ∃ (j m : Nat) (v1 : Value), v1 = v ∧ j ≤ n1 ∧ m ≤ k * 20 + j ∧ i = .int .i64 j ∧ Hid (wr.ownsRow w.heap.size 2 1 v1 m (intV (natI (nearS D n1 k ++ atD D k j)))) ∧ Hid (Below w.heap.size w wr)) (fun _ i _ => n1 - (intOf i).toNat)
        case atStart => exact ⟨0, m, _, rfl, Nat.zero_le _, by omega, rfl, HO2, HB⟩
        case round =>
          clear HO HB HO2 hm
          obtain ⟨j, m, v, rfl, hj, hm, rfl, HO, HB⟩ := hrel
          by_cases hlt2 : j < n1
          · obtain ⟨x, hx⟩ : ∃ x, ls[j]? = some x := ⟨ls[j]'(by have := HL.out; omega), List.getElem?_eq_getElem _⟩
            obtain ⟨b, o, rfl, hbl, hcc⟩ := (HT1.out wr HB.out).2 (by omega)
            have hcx := hcc j x hx
            have hdk := HDA.out j x hx
            have CX := Lib.hid (fun W => CW.out x W (List.mem_of_getElem? hx))
            rw [← hdk] at CX
            have HYES : Hid (D j = (k : Int) → atD D k (j + 1) = atD D k j ++ [j]) := Lib.hid atD_yes
            have HNO : Hid (¬ D j = (k : Int) → atD D k (j + 1) = atD D k j) := Lib.hid atD_no
            obtain ⟨z, hz⟩ : ∃ z, z = D j := ⟨_, rfl⟩
            rw [← hz] at CX HYES HNO
            clear hx hcc hz hdk
            by_cases hzk : z = (k : Int)
            · have HU := Lib.hid (HYES.out hzk)
              subst hzk
              go_wp2_with (first
                | (go_at_call 50; refine (CX.out _).mono ?_; rintro e w5 ⟨rfl, hb5⟩; have hO5 := Lib.hid (ownsRow_keep HO.out hb5); have hB5 := Lib.hid (HB.out.trans (hb5.mono HB.out.size)); clear hb5)
                | (at_builtin; refine wpList_append_own _ rfl _ _ 27 rfl w.heap.size 2 i0 _ 1 8 Try.underlying27 hi0 hz0 hz1 hz2 rfl (by decide) _ _ _ rfl (World.ownsRow.alloc (w := w5) hO5.out _) ⟨w5.heap.size, 0, none⟩ 1 1 [.int .i64 (j : Int)] rfl rfl ?c1 ?c2 ?c3 ?c4 ?c5 ?_))
              case c1 => exact one_cell' _ _ _ (new_one w5 _ _)
              case c2 => intro u hu; simp at hu; subst hu; rfl
              case c3 => unfold maxLen; omega
              case c4 => omega
              case c5 => have := hB5.out.size; simp; omega
              intro v' w9 hown9 hgrow9 _
              rw [intV_snoc, natI_snoc, List.append_assoc, ← HU.out] at hown9
              have HO9 := Lib.hid hown9
              have HB9 : Hid (Below w.heap.size w w9) := Lib.hid ((hB5.out.alloc hB5.out.size _).grown hgrow9 (by have := hB5.out.size; simp; omega) (fun x hx => (hO5.out.lt x hx).1))
              clear hown9 hgrow9
              go_wp2_with fail
              go_roundw
              case rel => exact ⟨j + 1, m + 1, v', rfl, by omega, by omega, by go_num, HO9, HB9⟩
              case measure => simp [intOf]; omega
            · have HU := Lib.hid (HNO.out hzk)
              have d1 : (z == (k : Int)) = false := by simp; exact hzk
              go_wp2_with (go_at_call 50; refine (CX.out _).mono ?_; rintro e w5 ⟨rfl, hb5⟩; have hO5 := Lib.hid (ownsRow_keep HO.out hb5); have hB5 := Lib.hid (HB.out.trans (hb5.mono HB.out.size)); clear hb5)
              go_roundw
              case rel => exact ⟨j + 1, m, v, rfl, by omega, by omega, by go_num, Lib.hid (by rw [HU.out]; exact hO5.out), hB5⟩
              case measure => simp [intOf]; omega
          · obtain rfl : j = n1 := by omega
            have HR : Hid (wr.ownsRow w.heap.size 2 1 v m (intV (natI (nearS D j (k + 1))))) := HO
            go_wp2_with fail
            go_roundw
            case rel => exact ⟨k + 1, m, v, _, rfl, rfl, by omega, by omega, by go_num, HR, HB⟩
            case measure => simp [intOf]; omega
      · obtain rfl : k = M + 1 := by omega
        go_wp2_with fail
        go_ret2
        exact OutI.of rfl (by rw [Int.toNat_natCast]; exact HO.out) (Nat.le_refl _) HB.out
  · have hc := nerC_bad (most := most) h0
    rw [nerZ_no (by rw [hc]; exact h0), hc]
    obtain ⟨d, hd⟩ : ∃ d, d = codeW ls [s] := ⟨_, rfl⟩
    rw [← hd] at CC h0 ⊢
    have d1 : (d != 0) = true := by simp; exact h0
    have d2 : (d == 0) = false := by simp; exact h0
    clear h0 hd hc
    go_enter Try.func14, Try.ntmps14
    go_wp2_with (at_make; refine wpList_make_full _ rfl _ _ 27 rfl w.heap.size 2 i0 _ 1 Try.underlying27 hi0 hz0 hz1 _ _ _ _ 26 rfl rfl (by simp) (by simp) ?b2 ?b3 (Nat.le_refl _) ?_)
    case b2 => rw [hz2]; omega
    case b3 => unfold maxLen; omega
    intro w1 hown1 hgrow1
    rw [made_zeros] at hown1
    have hB1 : Below w.heap.size w w1 := (Below.refl _ _).grown hgrow1 (Nat.le_refl _) (fun k h => by cases h)
    have CC1 := Lib.hid (CC.out w1 _ _ hB1 (own_num hown1))
    have HB1 := Lib.hid hB1
    clear hown1 hgrow1 hB1 CC
    go_wp2_with fail
    refine CC1.out.mono ?_
    rintro e w' ⟨rfl, rfl⟩
    go_wp2_with fail
    go_ret2
    exact OutI.nil rfl HB1.out
end Go.Proofs.Ytmbahbnadkmnkaa
