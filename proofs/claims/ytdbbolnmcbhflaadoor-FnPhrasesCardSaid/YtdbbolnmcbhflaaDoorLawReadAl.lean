/-
  The law of ReadAlphabet: its call answers true, and nothing that was there changes.
-/
import Derived.Test.YtdbbolnmcbhflaaDoorReadAl
import Derived.Test.YtdbbolnmcbhflaaDoorExactS
namespace Go.Proofs.YtdbbolnmcbhflaaDoor
set_option linter.unusedVariables false
open Go.RowKit

theorem cReadAl_spec_no (s : ByteArray) (w : World) (hs : s.size ≤ 1073741824) (h : alphaB (spaceB s) = false) : Calls Tryd.prog 34 #[.string s] w (ReadNo w) := (cReadAl_spec s w hs).mono fun e w' hh => hh.1 h
theorem cReadAl_spec_yes (s : ByteArray) (w : World) (hs : s.size ≤ 1073741824) (h : alphaB (spaceB s) = true) : Calls Tryd.prog 34 #[.string s] w (ReadOut (spaceB s) w) := (cReadAl_spec s w hs).mono fun e w' hh => hh.2 h
theorem cReadAl_no (s : ByteArray) (w : World) (hs : s.size ≤ 1073741824) (hsh : w.ShapedOpen Tryd.prog) (h : alphaB (spaceB s) = false) : Calls Tryd.prog 33 #[.string s] w (ReadNo w) := (cReadAl s w hs hsh).mono fun e w' hh => hh.1 h
theorem cReadAl_yes (s : ByteArray) (w : World) (hs : s.size ≤ 1073741824) (hsh : w.ShapedOpen Tryd.prog) (h : alphaB (spaceB s) = true) : Calls Tryd.prog 33 #[.string s] w (ReadOut (spaceB s) w) := (cReadAl s w hs hsh).mono fun e w' hh => hh.2 h
theorem space_pos' (s : ByteArray) : 0 < (spaceB s).length := by unfold spaceB; rw [← rest_zero]; exact rest_pos _ _ _

end Go.Proofs.YtdbbolnmcbhflaaDoor
