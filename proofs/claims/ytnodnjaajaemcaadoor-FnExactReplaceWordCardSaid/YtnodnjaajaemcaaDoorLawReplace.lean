/-
  The law of ReplaceWord: its call answers true, and nothing that was there changes.
-/
import Derived.Test.YtnodnjaajaemcaaDoorReplaceImpl
namespace Go.Proofs.YtnodnjaajaemcaaDoor
set_option linter.unusedVariables false
open Go.RowKit

set_option maxHeartbeats 1000000 in
theorem wReplaceWord (s old new : ByteArray) (hs : s.size ≤ maxLen) (ho : old.size ≤ maxLen) (hn : new.size ≤ maxLen) (w : World) (hsh : w.ShapedOpen Tryd.prog) :
    Calls Tryd.prog 5 #[.string s, .string old, .string new] w fun e w' => e = .returned (.bool true) ∧ Below w.heap.size w w' := by
  have ho' := ho
  have hn' := hn
  unfold maxLen at hs ho' hn'
  have HSH := Lib.hid hsh
  clear hsh
  by_cases b1 : 1048576 < s.size
  · go_enter Tryd.func5, Tryd.ntmps5
    go_wp2_with fail
    go_ret
    exact ⟨rfl, Below.refl _ _⟩
  by_cases b2 : 1048576 < old.size
  · go_enter Tryd.func5, Tryd.ntmps5
    go_wp2_with fail
    go_ret
    exact ⟨rfl, Below.refl _ _⟩
  by_cases b3 : 1048576 < new.size
  · go_enter Tryd.func5, Tryd.ntmps5
    go_wp2_with fail
    go_ret
    exact ⟨rfl, Below.refl _ _⟩
  have hs2 : s.size ≤ 1073741824 := by omega
  cases h : (phraseB s && (wordB old && wordB new))
  · have H := Lib.hid h
    clear h
    go_enter Tryd.func5, Tryd.ntmps5
    go_wp2_with fail
    refine (cReplace_spec_bad s old new _ hs2 ho hn H.out).mono ?_
    rintro e w1 ⟨rfl, hb1⟩
    go_wp2_with fail
    refine (cReplace_impl_bad s old new _ hs2 (shaped_below HSH.out hb1) ho hn H.out).mono ?_
    rintro e w2 ⟨rfl, hb2⟩
    go_wp2_with fail
    go_ret
    exact ⟨rfl, hb1.trans (hb2.mono hb1.size)⟩
  · simp only [Bool.and_eq_true] at h
    obtain ⟨h1, h2, h3⟩ := h
    have C1 := Lib.hid (fun W => cReplace_spec_ok s old new W hs2 ho hn h1 h2 h3)
    have C2 := Lib.hid (fun W hW => cReplace_impl_ok s old new W hs2 hW ho hn h1 h2 h3)
    clear h1 h2 h3
    cases hf : hasB old (spaceB s)
    all_goals
      first | rw [replV_no _ _ _ hf] at C1 C2 | rw [replV_yes _ _ _ hf] at C1 C2
      clear hf
      go_enter Tryd.func5, Tryd.ntmps5
      go_wp2_with fail
      refine (C1.out _).mono ?_
      rintro e w1 ⟨rfl, hb1⟩
      go_wp2_with fail
      refine (C2.out _ (shaped_below HSH.out hb1)).mono ?_
      rintro e w2 ⟨rfl, hb2⟩
      go_wp2_with fail
      go_ret
      exact ⟨rfl, hb1.trans (hb2.mono hb1.size)⟩
end Go.Proofs.YtnodnjaajaemcaaDoor
