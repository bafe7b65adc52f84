/-
  The law of LettersInCommon: its call answers true, and nothing that was there changes.
-/
import Derived.Test.YtfnmkdfdbkncjaaLcsImpl
namespace Go.Proofs.Ytfnmkdfdbkncjaa
set_option linter.unusedVariables false
open Go.RowKit

theorem twoE_size (a b : ByteArray) (h : twoE a b = true) : a.size ≤ 16 ∧ b.size ≤ 16 := by
  unfold twoE at h
  simp only [Bool.and_eq_true] at h
  exact ⟨(word_size a h.1).2, (word_size b h.2).2⟩

set_option maxHeartbeats 400000 in
theorem wLettersInCommon (a b : ByteArray) (ha : a.size ≤ maxLen) (hb : b.size ≤ maxLen) (w : World) :
    Calls Try.prog 5 #[.string a, .string b] w fun e w' => e = .returned (.bool true) ∧ Below w.heap.size w w' := by
  have ha' := ha
  have hb' := hb
  unfold maxLen at ha' hb'
  by_cases h1 : 1048576 < a.size
  · go_enter Try.func5, Try.ntmps5
    go_wp2_with fail
    go_ret
    exact ⟨rfl, Below.refl _ _⟩
  by_cases h2 : 1048576 < b.size
  · go_enter Try.func5, Try.ntmps5
    go_wp2_with fail
    go_ret
    exact ⟨rfl, Below.refl _ _⟩
  cases h : twoE a b
  · have H := Lib.hid h
    clear h
    go_enter Try.func5, Try.ntmps5
    go_wp2_with fail
    refine (cLcs_spec_no a b _ ha hb H.out).mono ?_
    rintro e w' ⟨rfl, rfl⟩
    go_wp2_with fail
    refine (cLcs_impl_no a b _ ha hb H.out).mono ?_
    rintro e w' ⟨rfl, hg⟩
    go_wp2_with fail
    go_ret
    exact ⟨rfl, hg⟩
  · have H := Lib.hid h
    have hz := twoE_size a b h
    clear h
    go_enter Try.func5, Try.ntmps5
    go_wp2_with fail
    refine (cLcs_spec_yes a b _ ha hb hz.1 hz.2 H.out).mono ?_
    rintro e w1 ⟨rfl, hg1⟩
    go_wp2_with fail
    refine (cLcs_impl_yes a b _ ha hb hz.1 hz.2 H.out).mono ?_
    rintro e w2 ⟨rfl, hg2⟩
    go_wp2_with fail
    go_ret
    exact ⟨rfl, hg1.trans (hg2.mono hg1.size)⟩
end Go.Proofs.Ytfnmkdfdbkncjaa
