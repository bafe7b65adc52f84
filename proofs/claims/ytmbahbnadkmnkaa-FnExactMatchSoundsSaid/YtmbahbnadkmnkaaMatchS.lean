/-
  The contract of the reference's MatchSounds.
-/
import Derived.Test.YtmbahbnadkmnkaaMatch
namespace Go.Proofs.Ytmbahbnadkmnkaa
set_option linter.unusedVariables false
open Go.RowKit

set_option maxHeartbeats 2000000 in
set_option maxRecDepth 100000 in
theorem cMatch_spec (A A1 : Option Addr) (n c n1 c1 : Nat) (xs : List Int) (ls : List ByteArray) (s : ByteArray) (w : World) (hb : n ≤ maxLen) (h : NumAt w w.heap.size A n xs) (hb1 : n1 ≤ maxLen) (hs1 : ∀ x ∈ ls, x.size ≤ maxLen) (h1 : TextAt w w.heap.size A1 n1 ls) (hs : s.size ≤ maxLen) :
    Calls Try.prog 29 #[.slice A n c, .slice A1 n1 c1, .string s] w (OutI (matZ xs ls s) (code7 xs ls [s]) w) := by
  obtain ⟨i0, hi0, hz0, hz1, hz2⟩ := info_parts info_i64
  have CC := Lib.hid (cCode7 A A1 n c n1 c1 _ _ xs ls s w hb h hb1 hs1 h1 hs)
  have HN : Hid (∀ W, Below w.heap.size w W → NumAt W W.heap.size A n xs) := Lib.hid (fun W hW => (h.below hW (Nat.le_refl _)).more hW.size)
  have HL := Lib.hid h1.1
  have HT1 : Hid (∀ W, Below w.heap.size w W → TextAt W w.heap.size A1 n1 ls) := Lib.hid (fun W hW => h1.below hW (Nat.le_refl _))
  unfold maxLen at hb1
  clear h h1
  by_cases h0 : code7 xs ls [s] = 0
  · rw [matZ_yes h0, h0]
    rw [h0] at CC
    have hh := code7_zero h0
    have hn20 : n1 ≤ 20 := by rw [HL.out]; exact hh.2.2.2
    have CW := Lib.hid (fun x W hW (hx : x ∈ ls) => cSoundS A n c _ xs x W (HN.out W hW) (Nat.le_refl _) hh.1 (wordsB_mem hh.2.1 hx))
    have CS := Lib.hid (fun W hW => cSoundS A n c _ xs s W (HN.out W hW) (Nat.le_refl _) hh.1 (by rw [← wordsB_one]; exact hh.2.2.1))
    have HHIT : Hid (∀ k x, ls[k]? = some x → hitK xs ls s k = ((sndB xs x).toList == (sndB xs s).toList)) := Lib.hid (fun k x => hitK_at)
    obtain ⟨y, hy⟩ : ∃ y, y = sndB xs s := ⟨_, rfl⟩
    rw [← hy] at CS HHIT
    clear h0 hh hy
    go_enter Try.func29, Try.ntmps29
    go_wp2_with fail
    refine CC.out.mono ?_
    rintro e w' ⟨rfl, rfl⟩
    go_wp2_with fail
    go_loopw [9, 10] (fun v i wr => ∃ (k m : Nat) (v1 : Value), v1 = v ∧ k ≤ n1 ∧ m ≤ k ∧ i = .int .i64 k ∧ Hid (wr.ownsRow w.heap.size 2 1 v1 m (intV (matU xs ls s k))) ∧ Hid (Below w.heap.size w wr)) (fun _ i _ => n1 - (intOf i).toNat)
    case atStart => exact ⟨0, 0, _, rfl, Nat.zero_le _, Nat.le_refl _, rfl, Lib.hid (World.ownsRow_lit (e := 2) (base := w.heap.size) (size := 1) w #[] 0 (Nat.le_refl _) (by decide) rfl), Lib.hid ((Below.refl _ _).alloc (Nat.le_refl _) _)⟩
    case round =>
      obtain ⟨k, m, v, rfl, hk, hm, rfl, HO, HB⟩ := hrel
      by_cases hlt : k < n1
      · obtain ⟨x, hx⟩ : ∃ x, ls[k]? = some x := ⟨ls[k]'(by have := HL.out; omega), List.getElem?_eq_getElem _⟩
        obtain ⟨b, o, rfl, hbl, hcc⟩ := (HT1.out wr HB.out).2 (by omega)
        have hcx := hcc k x hx
        have CX := Lib.hid (fun W hW => CW.out x W hW (List.mem_of_getElem? hx))
        have HH := Lib.hid (HHIT.out k x hx)
        obtain ⟨z, hz⟩ : ∃ z, z = sndB xs x := ⟨_, rfl⟩
        rw [← hz] at CX HH
        have CX0 := Lib.hid (CX.out wr HB.out)
        clear hx hcc hz CX
        cases hd : (z.toList == y.toList)
        · have HU : Hid (matU xs ls s (k + 1) = matU xs ls s k) := Lib.hid (matU_no (by rw [HH.out, hd]))
          go_wp2_with fail
          refine CX0.out.mono ?_
          rintro e w4 ⟨rfl, hb4⟩
          have hO4 := Lib.hid (ownsRow_keep HO.out hb4)
          have hB4 := Lib.hid (HB.out.trans (hb4.mono HB.out.size))
          clear hb4
          have CS4 := Lib.hid (CS.out w4 hB4.out)
          go_wp2_with fail
          refine CS4.out.mono ?_
          rintro e w5 ⟨rfl, hb5⟩
          have hO5 := Lib.hid (ownsRow_keep hO4.out hb5)
          have hB5 := Lib.hid (hB4.out.trans (hb5.mono hB4.out.size))
          clear hb5
          go_wp2_with fail
          go_roundw
          case rel => exact ⟨k + 1, m, v, rfl, by omega, by omega, by go_num, Lib.hid (by rw [HU.out]; exact hO5.out), hB5⟩
          case measure => simp [intOf]; omega
        · have HU : Hid (matU xs ls s (k + 1) = matU xs ls s k ++ [(k : Int)]) := Lib.hid (matU_yes (by rw [HH.out, hd]))
          go_wp2_with fail
          refine CX0.out.mono ?_
          rintro e w4 ⟨rfl, hb4⟩
          have hO4 := Lib.hid (ownsRow_keep HO.out hb4)
          have hB4 := Lib.hid (HB.out.trans (hb4.mono HB.out.size))
          clear hb4
          have CS4 := Lib.hid (CS.out w4 hB4.out)
          go_wp2_with fail
          refine CS4.out.mono ?_
          rintro e w5 ⟨rfl, hb5⟩
          have hO5 := Lib.hid (ownsRow_keep hO4.out hb5)
          have hB5 := Lib.hid (hB4.out.trans (hb5.mono hB4.out.size))
          clear hb5
          go_wp2_with (first
            | (at_builtin; refine wpList_append_own _ rfl _ _ 27 rfl w.heap.size 2 i0 _ 1 8 Try.underlying27 hi0 hz0 hz1 hz2 rfl (by decide) _ _ _ rfl (World.ownsRow.alloc (w := w5) hO5.out _) ⟨w5.heap.size, 0, none⟩ 1 1 [.int .i64 (k : Int)] rfl rfl ?c1 ?c2 ?c3 ?c4 ?c5 ?_))
          case c1 => exact one_cell' _ _ _ (new_one w5 _ _)
          case c2 => intro u hu; simp at hu; subst hu; rfl
          case c3 => unfold maxLen; omega
          case c4 => omega
          case c5 => have := hB5.out.size; simp; omega
          intro v' w9 hown9 hgrow9 _
          rw [intV_snoc, ← HU.out] at hown9
          have HO9 := Lib.hid hown9
          have HB9 : Hid (Below w.heap.size w w9) := Lib.hid ((hB5.out.alloc hB5.out.size _).grown hgrow9 (by have := hB5.out.size; simp; omega) (fun x hx => (hO5.out.lt x hx).1))
          clear hown9 hgrow9
          go_wp2_with fail
          go_roundw
          case rel => exact ⟨k + 1, m + 1, v', rfl, by omega, by omega, by go_num, HO9, HB9⟩
          case measure => simp [intOf]; omega
      · have HKN : Hid (ls.length = k) := Lib.hid (by have := HL.out; omega)
        go_wp2_with fail
        go_ret2
        refine OutI.of rfl (by rw [HKN.out]; exact HO.out) (Nat.le_refl _) HB.out
  · rw [matZ_no h0]
    obtain ⟨d, hd⟩ : ∃ d, d = code7 xs ls [s] := ⟨_, rfl⟩
    rw [← hd] at CC h0 ⊢
    have d1 : (d != 0) = true := by simp; exact h0
    have d2 : (d == 0) = false := by simp; exact h0
    clear h0 hd
    go_enter Try.func29, Try.ntmps29
    go_wp2_with fail
    refine CC.out.mono ?_
    rintro e w' ⟨rfl, rfl⟩
    go_wp2_with fail
    go_ret2
    exact OutI.nil rfl (Below.refl _ _)
end Go.Proofs.Ytmbahbnadkmnkaa
