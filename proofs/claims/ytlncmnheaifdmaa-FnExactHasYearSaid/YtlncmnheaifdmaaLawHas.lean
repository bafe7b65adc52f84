/-
  The law of HasYear: its call answers true.
-/
import Derived.Test.YtlncmnheaifdmaaHas
namespace Go.Proofs.Ytlncmnheaifdmaa
set_option linter.unusedVariables false
open Go.RowKit

set_option maxHeartbeats 1000000 in
theorem wHasYear (A : Option Addr) (n cap : Nat) (xs : List Sp) (z0 : Int) (w : World) (hm : n ≤ maxLen) (h : SpanAt w w.heap.size A n xs) :
    Calls Try.prog 12 #[.slice A n cap, .int .i64 z0] w fun e w' => e = .returned (.bool true) ∧ Below w.heap.size w w' := by
  have H := Lib.hid h
  have HZ := Lib.hid (cSz A n cap 1048576 w hm (Nat.le_refl _))
  clear h
  by_cases hb : 1048576 < n
  · rw [if_neg (by omega)] at HZ
    go_enter Try.func12, Try.ntmps12
    go_wp2_with fail
    refine (show Calls Try.prog 46 #[.slice A n cap, .int .i64 1048576] _ _ from HZ.out).mono ?_
    rintro e w' ⟨rfl, rfl⟩
    go_wp2_with fail
    go_ret
    exact ⟨rfl, Below.refl _ _⟩
  · rw [if_pos (by omega)] at HZ
    have hle : n ≤ 1048576 := by omega
    have h0 : 0 ≤ 1048576 - (n : Int) := by omega
    have h1 : 1048576 - (n : Int) ≤ 1048576 := by omega
    obtain ⟨z, hz⟩ : ∃ z : Int, z = ((1048576 : Nat) : Int) - (n : Int) := ⟨_, rfl⟩
    rw [← hz] at HZ
    have hz0 : 0 ≤ z := by omega
    clear hz h0 h1
    obtain ⟨ra, rc, hV⟩ := hasV_form xs z0
    have HV := Lib.hid hV
    clear hV
    go_enter Try.func12, Try.ntmps12
    go_wp2_with fail
    refine (show Calls Try.prog 46 #[.slice A n cap, .int .i64 1048576] _ _ from HZ.out).mono ?_
    rintro e w' ⟨rfl, rfl⟩
    go_wp2_with fail
    refine (cToS A n cap xs w hle H.out).mono ?_
    rintro e w1 ⟨rfl, own1, hb1⟩
    have S1 := Lib.hid own1.own_
    clear own1
    go_wp2_with fail
    have C1 := Lib.hid (cHasYear_spec _ n n xs z0 w1 hle S1.out)
    rw [HV.out] at C1
    refine C1.out.mono ?_
    rintro e w2 ⟨rfl, hb2⟩
    have B2 := hb1.trans (hb2.mono hb1.size)
    go_wp2_with fail
    refine (cToS A n cap xs w2 hle ((H.out.below B2).more B2.size)).mono ?_
    rintro e w3 ⟨rfl, own3, hb3⟩
    have S3 := Lib.hid own3.own_
    have B3 := B2.trans (hb3.mono B2.size)
    clear own3
    go_wp2_with fail
    have C3 := Lib.hid (cHasYear_impl _ n n xs z0 w3 hle S3.out)
    rw [HV.out] at C3
    refine C3.out.mono ?_
    rintro e w4 ⟨rfl, hb4⟩
    have B4 := B3.trans (hb4.mono B3.size)
    have S4 := Lib.hid ((S3.out.below hb4).more hb4.size)
    have hd : (ra != ra) = false := by simp
    have hd2 : (rc != rc) = false := by simp
    go_wp2_with fail
    refine (cToS A n cap xs w4 hle ((H.out.below B4).more B4.size)).mono ?_
    rintro e w5 ⟨rfl, own5, hb5⟩
    have S5 := Lib.hid own5.own_
    have B5 := B4.trans (hb5.mono B4.size)
    have S6 := Lib.hid ((S4.out.below hb5).more hb5.size)
    clear own5 hd hd2
    go_wp2_with fail
    refine (cEqSp _ _ n n n xs w5 (by omega) S6.out S5.out).mono ?_
    rintro e w6 ⟨rfl, hb6⟩
    go_wp2_with fail
    go_ret
    exact ⟨rfl, B5.trans (hb6.mono B5.size)⟩
end Go.Proofs.Ytlncmnheaifdmaa
