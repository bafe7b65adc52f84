/-
  The contract of spec.IsPhrase.
-/
import Derived.Test.YtkbkgbhnfopgnaaDoorIsPhrase
namespace Go.Proofs.YtkbkgbhnfopgnaaDoor
set_option linter.unusedVariables false
open Go.RowKit

theorem cIsPhrase_spec (s : ByteArray) (w : World) (hs : s.size ≤ 1073741824) :
    Calls Tryd.prog 82 #[.string s] w fun e w' => e = .returned (.bool (phraseB s)) ∧ Below w.heap.size w w' := by
  cases h : wordsB (spaceB s)
  · have HP := Lib.hid (phrase_bad s h)
    have H := Lib.hid h
    clear h
    go_enter Tryd.func82, Tryd.ntmps82
    go_wp2_with fail
    refine (cPhrase_bad s _ hs H.out).mono ?_
    rintro e w1 ⟨rfl, hb⟩
    go_wp2_with fail
    go_ret
    exact ⟨ret_bool HP.out.symm, hb⟩
  · have HP := Lib.hid (phrase_ok s h)
    have H := Lib.hid h
    clear h
    have hc := cPhrase_ok s
    rw [← HP.out] at hc
    have HC := Lib.hid hc
    clear hc
    go_enter Tryd.func82, Tryd.ntmps82
    go_wp2_with fail
    refine (HC.out _ hs H.out).mono ?_
    rintro e w1 ⟨v, rfl, hown, hb⟩
    go_wp2_with fail
    go_ret
    exact ⟨rfl, hb⟩

end Go.Proofs.YtkbkgbhnfopgnaaDoor
