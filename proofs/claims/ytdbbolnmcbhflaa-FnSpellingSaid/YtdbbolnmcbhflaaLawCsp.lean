/-
  The law of CountSpellings: its call answers true.
-/
import Derived.Test.YtdbbolnmcbhflaaSpCountS
namespace Go.Proofs.Ytdbbolnmcbhflaa
set_option linter.unusedVariables false
open Go.RowKit

theorem cspV_form (xs : List ByteArray) (s : ByteArray) : ∃ b c, cspV xs s = .tuple #[.int .i64 b, .int .i64 c] := by
  unfold cspV; split
  · exact ⟨_, _, rfl⟩
  · exact ⟨_, _, rfl⟩
theorem tCount_spec (A : Option Addr) (n cap : Nat) (xs : List ByteArray) (s : ByteArray) (w : World) (hbig : n ≤ 1048576) (hs : ∀ x ∈ xs, x.size ≤ maxLen) (h : TextAt w w.heap.size A n xs) (hz : s.size ≤ 1048576) :
    Calls Try.prog 19 #[.slice A n cap, .string s] w fun e w' => e = .returned (cspV xs s) ∧ Below w.heap.size w w' := by
  cases hok : okW xs s
  · exact tCspS_bad A n cap _ xs s w hbig hs h hz hok
  · exact tCspS_ok A n cap xs s w hbig hs h hok
theorem tCount (A : Option Addr) (n cap : Nat) (xs : List ByteArray) (s : ByteArray) (w : World) (hbig : n ≤ 1048576) (hs : ∀ x ∈ xs, x.size ≤ maxLen) (h : TextAt w w.heap.size A n xs) (hz : s.size ≤ 1048576) :
    Calls Try.prog 18 #[.slice A n cap, .string s] w fun e w' => e = .returned (cspV xs s) ∧ Below w.heap.size w w' := by
  cases hok : okW xs s
  · exact tCsp_bad A n cap xs s w hbig hs h hz hok
  · exact tCsp_ok A n cap xs s w hbig hs h hok

end Go.Proofs.Ytdbbolnmcbhflaa
