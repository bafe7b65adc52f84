/-
  The contracts of DoSoundAlike, of the program and of the reference.
-/
import Derived.Test.YtmbahbnadkmnkaaSndX
import Derived.Deep.RegionWith
namespace Go.Proofs.Ytmbahbnadkmnkaa
set_option linter.unusedVariables false
open Go.RowKit

def alkB (xs : List Int) (a b : ByteArray) : Bool := (sndB xs a).toList == (sndB xs b).toList
def alkZ (xs : List Int) (a b : ByteArray) : Bool := if code7 xs [a] [b] = 0 then alkB xs a b else false
theorem alkZ_no {xs : List Int} {a b : ByteArray} (h : code7 xs [a] [b] ≠ 0) : alkZ xs a b = false := by unfold alkZ; rw [if_neg h]
theorem alkZ_yes {xs : List Int} {a b : ByteArray} (h : code7 xs [a] [b] = 0) : alkZ xs a b = alkB xs a b := by unfold alkZ; rw [if_pos h]
theorem text_two (w : World) (a b : ByteArray) : TextAt (w.alloc (.cells #[.string a, .string b] 9)) (w.alloc (.cells #[.string a, .string b] 9)).heap.size (some ⟨w.heap.size, 0, none⟩) 2 [a, b] := by
  refine ⟨rfl, fun _ => ⟨_, 0, rfl, by simp, cells_two _ a b _ (fun i v h => ?_)⟩⟩
  rw [World.cell?_alloc_at _ _ _ _ rfl]
  exact h

set_option maxHeartbeats 1000000 in
set_option maxRecDepth 100000 in
theorem cAlike_impl (A : Option Addr) (n c : Nat) (xs : List Int) (a b : ByteArray) (w : World) (hb : n ≤ maxLen) (hs1 : a.size ≤ maxLen) (hs2 : b.size ≤ maxLen) (h : NumAt w w.heap.size A n xs) :
    Calls Try.prog 27 #[.slice A n c, .string a, .string b] w fun e w' => e = .returned (.tuple #[.bool (alkZ xs a b), .int .i64 (code7 xs [a] [b])]) ∧ Below w.heap.size w w' := by
  have hB0 : Below w.heap.size w (w.alloc (.cells #[.string a, .string b] 9)) := (Below.refl _ _).alloc (Nat.le_refl _) _
  have CF := Lib.hid (cTabFor A none (some ⟨w.heap.size, 0, none⟩) n c 0 0 2 2 xs [] [a, b] (w.alloc (.cells #[.string a, .string b] 9)) hb ((h.below hB0 (Nat.le_refl _)).more hB0.size) (by unfold maxLen; omega) (by simp) (text_nil _ _) (by unfold maxLen; omega) (by simp [hs1, hs2]) (text_two w a b))
  have HB0 := Lib.hid hB0
  have HSZ := Lib.hid (tabC_size xs)
  have HCL := Lib.hid (tabC_cells xs)
  have hz := zero26
  have hne := zs26_ne
  unfold ForOut at CF
  rw [code7_two] at CF
  clear h hB0
  by_cases h0 : code7 xs [a] [b] = 0
  · rw [alkZ_yes h0, h0]
    rw [h0] at CF
    have hh := code7_zero h0
    have C1 := Lib.hid (fun W => cSoundOfI xs a W hh.1 (by rw [← wordsB_one]; exact hh.2.1))
    have C2 := Lib.hid (fun W => cSoundOfI xs b W hh.1 (by rw [← wordsB_one]; exact hh.2.2.1))
    have HT := Lib.hid (tabC_yes hh.1)
    rw [HT.out] at CF HSZ HCL
    obtain ⟨cs, hcs⟩ : ∃ cs, cs = agC xs := ⟨_, rfl⟩
    rw [← hcs] at CF HSZ HCL C1 C2
    unfold alkB
    obtain ⟨s1, hq1⟩ : ∃ s1, s1 = sndB xs a := ⟨_, rfl⟩
    obtain ⟨s2, hq2⟩ : ∃ s2, s2 = sndB xs b := ⟨_, rfl⟩
    rw [← hq1] at C1 ⊢
    rw [← hq2] at C2 ⊢
    clear h0 hh hcs HT hq1 hq2
    go_enter Try.func27, Try.ntmps27
    go_wp2_with fail
    refine CF.out.mono ?_
    rintro e w1 ⟨rfl, hb1⟩
    have HB1 := Lib.hid (HB0.out.trans (hb1.mono HB0.out.size))
    have T1 := Lib.hid (TabAt.new w1 75 zs26)
    have HB2 := Lib.hid (HB1.out.alloc HB1.out.size (.cells zs26 75))
    have HB3 := Lib.hid (below_setRow HB2.out HB1.out.size cs)
    have T2 : Hid (TabAt ((w1.alloc (.cells zs26 75)).setRow w1.heap.size cs) w1.heap.size 75 cs) := Lib.hid (TabAt.setSame T1.out)
    clear hb1
    go_wp2_with (refine wpList_store_row rfl _ _ _ rfl w1.heap.size _ rfl rfl 75 _ T1.out (size26.trans (by rw [HSZ.out])) (by rw [zs26_size, HSZ.out]) HCL.out ?_)
    obtain ⟨w2, hw2⟩ : ∃ w2, w2 = (w1.alloc (.cells zs26 75)).setRow w1.heap.size cs := ⟨_, rfl⟩
    rw [← hw2] at T2 HB3 ⊢
    obtain ⟨ty1, f, t0, hT, ht0, hf, hback⟩ := class_of w2
    have HROW : Hid (∀ t, (f t).heap[w1.heap.size]? = some (.cells cs 75 (0, 0))) := Lib.hid (fun t => T2.out.below (hf t) T2.out.lt)
    have HF := Lib.hid hf
    have HK := Lib.hid hback
    clear hf hback hw2 T1 HB2 HB1 T2
    refine wp_region_class f t0 ht0 (by kernel_rfl) (by kernel_rfl) ?_
    clear ht0
    repeat (first
      | (go_big_quiet_want; refine quiet_row _ _ rfl w1.heap.size rfl 75 _ (0, 0) _ HROW.out Try.underlying75 rfl (size26.trans (by rw [HSZ.out])) ?_; go_simp; go_big_quiet_on)
      | go_big_quiet_step (first | (go_at_call_of 59 (Value.string a); exact Calls.class_of HF.out HK.out (C1.out _)) | (go_at_call_of 59 (Value.string b); exact Calls.class_of HF.out HK.out (C2.out _))))
    refine wpQuiet_nil ?_
    rintro w5 ⟨t5, rfl⟩
    have hb5 := Lib.hid (HB3.out.trans ((HF.out t5).mono HB3.out.size))
    clear HF HK HROW
    go_wp2_with fail
    go_ret2
    exact ⟨rfl, hb5.out⟩
  · rw [alkZ_no h0]
    obtain ⟨d, hd⟩ : ∃ d, d = code7 xs [a] [b] := ⟨_, rfl⟩
    rw [← hd] at CF h0 ⊢
    obtain ⟨cs, hcs⟩ : ∃ cs, cs = tabC xs := ⟨_, rfl⟩
    rw [← hcs] at CF HSZ HCL
    have d1 : (d != 0) = true := by simp; exact h0
    have d2 : (d == 0) = false := by simp; exact h0
    clear h0 hd hcs
    go_enter Try.func27, Try.ntmps27
    go_wp2_with fail
    refine CF.out.mono ?_
    rintro e w1 ⟨rfl, hb1⟩
    have HB1 := Lib.hid (HB0.out.trans (hb1.mono HB0.out.size))
    have T1 := Lib.hid (TabAt.new w1 75 zs26)
    have HB2 := Lib.hid (HB1.out.alloc HB1.out.size (.cells zs26 75))
    have HB3 := Lib.hid (below_setRow HB2.out HB1.out.size cs)
    clear hb1
    go_wp2_with (refine wpList_store_row rfl _ _ _ rfl w1.heap.size _ rfl rfl 75 _ T1.out (size26.trans (by rw [HSZ.out])) (by rw [zs26_size, HSZ.out]) HCL.out ?_)
    go_ret2
    exact ⟨rfl, HB3.out⟩

set_option maxHeartbeats 1000000 in
theorem cAlike_spec (A : Option Addr) (n c : Nat) (xs : List Int) (a b : ByteArray) (w : World) (hb : n ≤ maxLen) (hs1 : a.size ≤ maxLen) (hs2 : b.size ≤ maxLen) (h : NumAt w w.heap.size A n xs) :
    Calls Try.prog 26 #[.slice A n c, .string a, .string b] w fun e w' => e = .returned (.tuple #[.bool (alkZ xs a b), .int .i64 (code7 xs [a] [b])]) ∧ Below w.heap.size w w' := by
  have hB0 : Below w.heap.size w (w.alloc (.cells #[.string a] 9)) := (Below.refl _ _).alloc (Nat.le_refl _) _
  have CC := Lib.hid (cCode7 A (some ⟨w.heap.size, 0, none⟩) n c 1 1 _ _ xs [a] b (w.alloc (.cells #[.string a] 9)) hb ((h.below hB0 (Nat.le_refl _)).more hB0.size) (by unfold maxLen; omega) (by simpa using hs1) (text_one w a) hs2)
  have HB0 := Lib.hid hB0
  have HN : Hid (∀ W, Below w.heap.size w W → NumAt W W.heap.size A n xs) := Lib.hid (fun W hW => (h.below hW (Nat.le_refl _)).more hW.size)
  clear h hB0
  by_cases h0 : code7 xs [a] [b] = 0
  · rw [alkZ_yes h0, h0]
    rw [h0] at CC
    have hh := code7_zero h0
    have C1 := Lib.hid (fun W hW => cSoundS A n c _ xs a W (HN.out W hW) (Nat.le_refl _) hh.1 (by rw [← wordsB_one]; exact hh.2.1))
    have C2 := Lib.hid (fun W hW => cSoundS A n c _ xs b W (HN.out W hW) (Nat.le_refl _) hh.1 (by rw [← wordsB_one]; exact hh.2.2.1))
    unfold alkB
    obtain ⟨s1, hq1⟩ : ∃ s1, s1 = sndB xs a := ⟨_, rfl⟩
    obtain ⟨s2, hq2⟩ : ∃ s2, s2 = sndB xs b := ⟨_, rfl⟩
    rw [← hq1] at C1 ⊢
    rw [← hq2] at C2 ⊢
    clear h0 hh hq1 hq2
    go_enter Try.func26, Try.ntmps26
    go_wp2_with fail
    refine CC.out.mono ?_
    rintro e w' ⟨rfl, rfl⟩
    go_wp2_with fail
    refine (C1.out _ HB0.out).mono ?_
    rintro e w1 ⟨rfl, g1⟩
    have HB1 := Lib.hid (HB0.out.trans (g1.mono HB0.out.size))
    clear g1
    go_wp2_with fail
    refine (C2.out _ HB1.out).mono ?_
    rintro e w2 ⟨rfl, g2⟩
    have HB2 := Lib.hid (HB1.out.trans (g2.mono HB1.out.size))
    clear g2
    go_wp2_with fail
    go_ret2
    exact ⟨rfl, HB2.out⟩
  · rw [alkZ_no h0]
    obtain ⟨d, hd⟩ : ∃ d, d = code7 xs [a] [b] := ⟨_, rfl⟩
    rw [← hd] at CC h0 ⊢
    have d1 : (d != 0) = true := by simp; exact h0
    have d2 : (d == 0) = false := by simp; exact h0
    clear h0 hd
    go_enter Try.func26, Try.ntmps26
    go_wp2_with fail
    refine CC.out.mono ?_
    rintro e w' ⟨rfl, rfl⟩
    go_wp2_with fail
    go_ret2
    exact ⟨rfl, HB0.out⟩
end Go.Proofs.Ytmbahbnadkmnkaa
