/-
  The law of JoinLetters: its call answers true, and nothing that was there changes.
-/
import Derived.Test.YtdbbolnmcbhflaaJoinL
namespace Go.Proofs.Ytdbbolnmcbhflaa
set_option linter.unusedVariables false
open Go.RowKit

theorem joinLV_form (xs : List ByteArray) (zs : List Int) : ∃ s c, joinLV xs zs = .tuple #[.string s, .int .i64 c] := by
  unfold joinLV
  by_cases h : alphaB xs = true
  · rw [if_pos h]
    by_cases h2 : zs.length ≤ 16 ∧ goodI xs zs = true
    · rw [if_pos h2]; exact ⟨_, _, rfl⟩
    · rw [if_neg h2]; exact ⟨_, _, rfl⟩
  · rw [if_neg h]; exact ⟨_, _, rfl⟩

theorem tJoinLS (A : Option Addr) (n cap B : Nat) (xs : List ByteArray) (A' : Option Addr) (m cap' B' : Nat) (zs : List Int) (w : World) (hbig : n ≤ 1048576) (hs : ∀ x ∈ xs, x.size ≤ maxLen) (h : TextAt w B A n xs) (hm : m ≤ 1048576) (hz : NumAt w B' A' m zs) :
    Calls Try.prog 22 #[.slice A n cap, .slice A' m cap'] w fun e w' => e = .returned (joinLV xs zs) ∧ w = w' := by
  have C := Lib.hid (tJoinL_spec A n cap B xs A' m cap' B' zs w hbig hs h hm hz)
  obtain ⟨s, c, hv⟩ := joinLV_form xs zs
  rw [hv] at C ⊢
  clear h hs hz hv
  go_enter Try.func22, Try.ntmps22
  go_wp2_with (go_at_call 47; refine C.out.mono ?_; rintro e w' ⟨rfl, rfl⟩)
  go_ret2
  exact ⟨rfl, rfl⟩

end Go.Proofs.Ytdbbolnmcbhflaa
