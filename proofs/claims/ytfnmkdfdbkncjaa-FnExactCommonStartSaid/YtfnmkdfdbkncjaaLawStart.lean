/-
  The law of CommonStart: its call answers true, and nothing that was there changes.
-/
import Derived.Test.YtfnmkdfdbkncjaaStartImpl
namespace Go.Proofs.Ytfnmkdfdbkncjaa
set_option linter.unusedVariables false
open Go.RowKit

theorem grown_of_drewN {w w' : World} {n : Nat} (h : Grown (w.drewN n) w') : Grown w w' := h

set_option maxHeartbeats 400000 in
theorem wCommonStart (a b : ByteArray) (ha : a.size ≤ maxLen) (hb : b.size ≤ maxLen) (w : World) :
    Calls Try.prog 3 #[.string a, .string b] w fun e w' => e = .returned (.bool true) ∧ Grown w w' := by
  have ha' := ha
  have hb' := hb
  unfold maxLen at ha' hb'
  by_cases h1 : 1048576 < a.size
  · go_enter Try.func3, Try.ntmps3
    go_wp2_with fail
    go_ret
    exact ⟨rfl, Grown.refl _⟩
  by_cases h2 : 1048576 < b.size
  · go_enter Try.func3, Try.ntmps3
    go_wp2_with fail
    go_ret
    exact ⟨rfl, Grown.refl _⟩
  cases h : twoE a b
  · have H := Lib.hid h
    clear h
    go_enter Try.func3, Try.ntmps3
    go_wp2_with fail
    refine (cCommonStart_spec_no a b _ ha hb H.out).mono ?_
    rintro e w' ⟨rfl, rfl⟩
    go_wp2_with fail
    refine (cCommonStart_impl_no a b _ ha hb H.out).mono ?_
    rintro e w' ⟨rfl, hg⟩
    go_wp2_with fail
    go_ret
    exact ⟨rfl, hg⟩
  · have H := Lib.hid h
    clear h
    go_enter Try.func3, Try.ntmps3
    go_wp2_with fail
    refine (cCommonStart_spec_yes a b _ ha hb H.out).mono ?_
    rintro e w' ⟨rfl, n, rfl⟩
    go_wp2_with fail
    refine (cCommonStart_impl_yes a b _ ha hb H.out).mono ?_
    rintro e w' ⟨rfl, hg⟩
    go_wp2_with fail
    go_ret
    exact ⟨rfl, grown_of_drewN hg⟩
end Go.Proofs.Ytfnmkdfdbkncjaa
