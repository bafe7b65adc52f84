/-
  The law of EditDistance: its call answers true, and nothing that was there changes.
-/
import Derived.Test.YtfnmkdfdbkncjaaLawLcs
import Derived.Test.YtfnmkdfdbkncjaaEdImpl
import Derived.Test.YtfnmkdfdbkncjaaEdSpec
namespace Go.Proofs.Ytfnmkdfdbkncjaa
set_option linter.unusedVariables false
open Go.RowKit

set_option maxHeartbeats 400000 in
theorem wEditDistance (a b : ByteArray) (ha : a.size ≤ maxLen) (hb : b.size ≤ maxLen) (w : World) :
    Calls Try.prog 4 #[.string a, .string b] w fun e w' => e = .returned (.bool true) ∧ Below w.heap.size w w' := by
  have ha' := ha
  have hb' := hb
  unfold maxLen at ha' hb'
  by_cases h1 : 1048576 < a.size
  · go_enter Try.func4, Try.ntmps4
    go_wp2_with fail
    go_ret
    exact ⟨rfl, Below.refl _ _⟩
  by_cases h2 : 1048576 < b.size
  · go_enter Try.func4, Try.ntmps4
    go_wp2_with fail
    go_ret
    exact ⟨rfl, Below.refl _ _⟩
  cases h : twoE a b
  · have H := Lib.hid h
    clear h
    go_enter Try.func4, Try.ntmps4
    go_wp2_with fail
    refine (cEd_spec_no a b _ ha hb H.out).mono ?_
    rintro e w' ⟨rfl, rfl⟩
    go_wp2_with fail
    refine (cEd_impl_no a b _ ha hb H.out).mono ?_
    rintro e w' ⟨rfl, hg⟩
    go_wp2_with fail
    go_ret
    exact ⟨rfl, hg⟩
  · have H := Lib.hid h
    have hz := twoE_size a b h
    clear h
    go_enter Try.func4, Try.ntmps4
    go_wp2_with fail
    refine (cEd_spec_yes a b _ ha hb hz.1 hz.2 H.out).mono ?_
    rintro e w1 ⟨rfl, hg1⟩
    go_wp2_with fail
    refine (cEd_impl_yes a b _ ha hb hz.1 hz.2 H.out).mono ?_
    rintro e w2 ⟨rfl, hg2⟩
    go_wp2_with fail
    go_ret
    exact ⟨rfl, hg1.trans (hg2.mono hg1.size)⟩
end Go.Proofs.Ytfnmkdfdbkncjaa
