/-
  The contracts of SoundOf, DoSoundAlike and SharperTable, of the program and of the reference.
-/
import Derived.Test.YtmbahbnadkmnkaaSndC
namespace Go.Proofs.Ytmbahbnadkmnkaa
set_option linter.unusedVariables false
open Go.RowKit

def sndZ (xs : List Int) (s : ByteArray) : ByteArray := if code7 xs [] [s] = 0 then sndB xs s else ByteArray.empty
theorem sndZ_no {xs : List Int} {s : ByteArray} (h : code7 xs [] [s] ≠ 0) : sndZ xs s = ByteArray.empty := by unfold sndZ; rw [if_neg h]
theorem sndZ_yes {xs : List Int} {s : ByteArray} (h : code7 xs [] [s] = 0) : sndZ xs s = sndB xs s := by unfold sndZ; rw [if_pos h]
theorem text_nil (w : World) (B : Nat) : TextAt w B none 0 [] := ⟨rfl, fun h => absurd h (by omega)⟩
theorem text_one (w : World) (s : ByteArray) : TextAt (w.alloc (.cells #[.string s] 9)) (w.alloc (.cells #[.string s] 9)).heap.size (some ⟨w.heap.size, 0, none⟩) 1 [s] := by
  refine ⟨rfl, fun _ => ⟨_, 0, rfl, by simp, fun j x hx => ?_⟩⟩
  match j, hx with
  | 0, hx => obtain rfl : s = x := by simpa using hx
             exact new_one w _ _

set_option maxHeartbeats 1000000 in
set_option maxRecDepth 100000 in
theorem cSoundOf_impl (A : Option Addr) (n c : Nat) (xs : List Int) (s : ByteArray) (w : World) (hb : n ≤ maxLen) (hs : s.size ≤ maxLen) (h : NumAt w w.heap.size A n xs) :
    Calls Try.prog 25 #[.slice A n c, .string s] w fun e w' => e = .returned (.tuple #[.string (sndZ xs s), .int .i64 (code7 xs [] [s])]) ∧ Below w.heap.size w w' := by
  have hB0 : Below w.heap.size w (w.alloc (.cells #[.string s] 9)) := (Below.refl _ _).alloc (Nat.le_refl _) _
  have CF := Lib.hid (cTabFor A none (some ⟨w.heap.size, 0, none⟩) n c 0 0 1 1 xs [] [s] (w.alloc (.cells #[.string s] 9)) hb ((h.below hB0 (Nat.le_refl _)).more hB0.size) (by unfold maxLen; omega) (by simp) (text_nil _ _) (by unfold maxLen; omega) (by simpa using hs) (text_one w s))
  have HB0 := Lib.hid hB0
  have HSZ := Lib.hid (tabC_size xs)
  have HCL := Lib.hid (tabC_cells xs)
  have hz := zero26
  have hne := zs26_ne
  unfold ForOut at CF
  clear h hB0
  by_cases h0 : code7 xs [] [s] = 0
  · rw [sndZ_yes h0, h0]
    rw [h0] at CF
    have hh := code7_zero h0
    have CS := Lib.hid (fun W => cSoundOfI xs s W hh.1 (by rw [← wordsB_one]; exact hh.2.2.1))
    have HT := Lib.hid (tabC_yes hh.1)
    rw [HT.out] at CF HSZ HCL
    obtain ⟨cs, hcs⟩ : ∃ cs, cs = agC xs := ⟨_, rfl⟩
    rw [← hcs] at CF HSZ HCL CS
    clear h0 hh hcs HT
    go_enter Try.func25, Try.ntmps25
    go_wp2_with fail
    refine CF.out.mono ?_
    rintro e w1 ⟨rfl, hb1⟩
    have HB1 := Lib.hid (HB0.out.trans (hb1.mono HB0.out.size))
    have T1 := Lib.hid (TabAt.new w1 75 zs26)
    have HB2 := Lib.hid (HB1.out.alloc HB1.out.size (.cells zs26 75))
    have HB3 := Lib.hid (below_setRow HB2.out HB1.out.size cs)
    have T2 : Hid (TabAt ((w1.alloc (.cells zs26 75)).setRow w1.heap.size cs) w1.heap.size 75 cs) := Lib.hid (TabAt.setSame T1.out)
    clear hb1
    go_wp2_with (first
      | (refine wpList_store_row rfl _ _ _ rfl w1.heap.size _ rfl rfl 75 _ T1.out (size26.trans (by rw [HSZ.out])) (by rw [zs26_size, HSZ.out]) HCL.out ?_)
      | (refine wpList_load_row rfl _ _ rfl w1.heap.size rfl 75 _ (0, 0) _ T2.out Try.underlying75 rfl (size26.trans (by rw [HSZ.out])) ?_)
      | (go_at_call 59; refine (CS.out _).mono ?_; rintro e w2 ⟨rfl, hb2⟩))
    go_ret2
    exact ⟨rfl, HB3.out.trans (hb2.mono HB3.out.size)⟩
  · rw [sndZ_no h0]
    obtain ⟨d, hd⟩ : ∃ d, d = code7 xs [] [s] := ⟨_, rfl⟩
    rw [← hd] at CF h0 ⊢
    obtain ⟨cs, hcs⟩ : ∃ cs, cs = tabC xs := ⟨_, rfl⟩
    rw [← hcs] at CF HSZ HCL
    have d1 : (d != 0) = true := by simp; exact h0
    have d2 : (d == 0) = false := by simp; exact h0
    clear h0 hd hcs
    go_enter Try.func25, Try.ntmps25
    go_wp2_with fail
    refine CF.out.mono ?_
    rintro e w1 ⟨rfl, hb1⟩
    have HB1 := Lib.hid (HB0.out.trans (hb1.mono HB0.out.size))
    have T1 := Lib.hid (TabAt.new w1 75 zs26)
    have HB2 := Lib.hid (HB1.out.alloc HB1.out.size (.cells zs26 75))
    have HB3 := Lib.hid (below_setRow HB2.out HB1.out.size cs)
    clear hb1
    go_wp2_with (refine wpList_store_row rfl _ _ _ rfl w1.heap.size _ rfl rfl 75 _ T1.out (size26.trans (by rw [HSZ.out])) (by rw [zs26_size, HSZ.out]) HCL.out ?_)
    go_ret2
    exact ⟨rfl, HB3.out⟩
theorem cSoundOf_spec (A : Option Addr) (n c : Nat) (xs : List Int) (s : ByteArray) (w : World) (hb : n ≤ maxLen) (hs : s.size ≤ maxLen) (h : NumAt w w.heap.size A n xs) :
    Calls Try.prog 24 #[.slice A n c, .string s] w fun e w' => e = .returned (.tuple #[.string (sndZ xs s), .int .i64 (code7 xs [] [s])]) ∧ Below w.heap.size w w' := by
  have CC := Lib.hid (cCode7 A none n c 0 0 _ _ xs [] s w hb h (by unfold maxLen; omega) (by simp) (text_nil w 0) hs)
  by_cases h0 : code7 xs [] [s] = 0
  · rw [sndZ_yes h0, h0]
    rw [h0] at CC
    have hh := code7_zero h0
    have CS := Lib.hid (cSoundS A n c _ xs s w h (Nat.le_refl _) hh.1 (by rw [← wordsB_one]; exact hh.2.2.1))
    clear h0 hh h
    go_enter Try.func24, Try.ntmps24
    go_wp2_with (first
      | (go_at_call 48; refine CC.out.mono ?_; rintro e w' ⟨rfl, rfl⟩)
      | (go_at_call 57; refine CS.out.mono ?_; rintro e w2 ⟨rfl, hb2⟩))
    go_ret2
    exact ⟨rfl, hb2⟩
  · rw [sndZ_no h0]
    obtain ⟨d, hd⟩ : ∃ d, d = code7 xs [] [s] := ⟨_, rfl⟩
    rw [← hd] at CC h0 ⊢
    have d1 : (d != 0) = true := by simp; exact h0
    have d2 : (d == 0) = false := by simp; exact h0
    clear h0 hd h
    go_enter Try.func24, Try.ntmps24
    go_wp2_with (go_at_call 48; refine CC.out.mono ?_; rintro e w' ⟨rfl, rfl⟩)
    go_ret2
    exact ⟨rfl, Below.refl _ _⟩
end Go.Proofs.Ytmbahbnadkmnkaa
