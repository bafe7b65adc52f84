/-
  The laws of SpellWord and CanWrite: their calls answer true.
-/
import Derived.Test.YtdbbolnmcbhflaaSpellI
import Derived.Test.YtdbbolnmcbhflaaMarkS
namespace Go.Proofs.Ytdbbolnmcbhflaa
set_option linter.unusedVariables false
open Go.RowKit

def zsW (xs : List ByteArray) (s : ByteArray) : List Int := if okW xs s && spellsB xs s then idxL xs s else []
def codeW (xs : List ByteArray) (s : ByteArray) : Int := if okW xs s then (if spellsB xs s then 0 else 4) else 1
theorem zsW_len (xs : List ByteArray) (s : ByteArray) : (zsW xs s).length ≤ s.size := by
  unfold zsW; split
  · exact idx_len xs s
  · exact Nat.zero_le _
/-- The row zs and the code come back; the row is new. -/
def SWOut (zs : List Int) (code : Int) (w : World) (e : Ending) (w' : World) : Prop :=
  ∃ A n c, e = .returned (.tuple #[.slice A n c, .int .i64 code]) ∧ w'.ownsRow w.heap.size 2 1 (.slice A n c) n (intV zs) ∧ Below w.heap.size w w'
theorem swOut_no {w : World} {e : Ending} {w' : World} {code : Int} (h : NoPost w code e w') : SWOut [] code w e w' :=
  ⟨none, 0, 0, h.1, World.ownsRow_nil _ _ _ _, h.2⟩
theorem row_form {w : World} {b n : Nat} {v : Value} {xs : List Value} (h : w.ownsRow b 2 1 v n xs) : ∃ A c, v = .slice A n c := by
  rcases h.2 with ⟨rfl, h0⟩ | ⟨g, cap, cur, rfl, _⟩
  · exact ⟨none, 0, by rw [h0]⟩
  · exact ⟨_, _, rfl⟩
theorem swOut_row {xs : List ByteArray} {s : ByteArray} {w : World} {e : Ending} {w' : World} (h : RowPost xs s w e w') : SWOut (idxL xs s) 0 w e w' := by
  obtain ⟨v, rfl, hown, hb⟩ := h
  obtain ⟨A, c, rfl⟩ := row_form hown
  exact ⟨A, _, c, rfl, hown, hb⟩

theorem tSW_spec (A : Option Addr) (n cap : Nat) (xs : List ByteArray) (s : ByteArray) (w : World) (hbig : n ≤ 1048576) (hs : ∀ x ∈ xs, x.size ≤ maxLen) (h : TextAt w w.heap.size A n xs) (hz : s.size ≤ 1048576) :
    Calls Try.prog 15 #[.slice A n cap, .string s] w (SWOut (zsW xs s) (codeW xs s) w) := by
  unfold zsW codeW
  cases hok : okW xs s
  · exact (tSpellW_bad A n cap xs s w hbig hs h hz hok).mono fun e w' hh => swOut_no hh
  · cases hn : spellsB xs s
    · exact (tSpellW_miss A n cap xs s w hbig hs h hz hok hn).mono fun e w' hh => swOut_no hh
    · exact (tSpellW_yes A n cap xs s w hbig hs h hz hok hn).mono fun e w' hh => swOut_row hh
theorem tSW_impl (A : Option Addr) (n cap : Nat) (xs : List ByteArray) (s : ByteArray) (w : World) (hbig : n ≤ 1048576) (hs : ∀ x ∈ xs, x.size ≤ maxLen) (h : TextAt w w.heap.size A n xs) (hz : s.size ≤ 1048576) :
    Calls Try.prog 14 #[.slice A n cap, .string s] w (SWOut (zsW xs s) (codeW xs s) w) := by
  unfold zsW codeW
  cases hok : okW xs s
  · exact (tSpellI_bad A n cap xs s w hbig hs h hz hok).mono fun e w' hh => swOut_no hh
  · refine (tSpellI A n cap xs s w hbig hs h hz hok).mono ?_
    rintro e w' (⟨h1, h2, h3⟩ | ⟨h1, h2⟩)
    · rw [h1]; exact swOut_no ⟨h2, h3⟩
    · rw [h1]; exact swOut_row h2

theorem tCan (A : Option Addr) (n cap : Nat) (xs : List ByteArray) (s : ByteArray) (w : World) (hbig : n ≤ 1048576) (hs : ∀ x ∈ xs, x.size ≤ maxLen) (h : TextAt w w.heap.size A n xs) (hz : s.size ≤ 1048576) :
    Calls Try.prog 16 #[.slice A n cap, .string s] w fun e w' => e = .returned (canV xs s) ∧ Below w.heap.size w w' := by
  have CC := Lib.hid (tSW_impl A n cap xs s w hbig hs h hz)
  unfold canV
  unfold zsW codeW at CC
  cases hok : okW xs s
  · rw [hok] at CC
    clear h hs hok
    go_enter Try.func16, Try.ntmps16
    go_wp2_with (go_at_call 14; refine (show Calls Try.prog _ _ _ (SWOut [] 1 w) from CC.out).mono ?_; rintro e w1 ⟨A1, n1, c1, rfl, _, hb1⟩)
    go_ret2
    exact ⟨rfl, hb1⟩
  · rw [hok] at CC
    cases hn : spellsB xs s
    · rw [hn] at CC
      clear h hs hok hn
      go_enter Try.func16, Try.ntmps16
      go_wp2_with (go_at_call 14; refine (show Calls Try.prog _ _ _ (SWOut [] 4 w) from CC.out).mono ?_; rintro e w1 ⟨A1, n1, c1, rfl, _, hb1⟩)
      go_ret2
      exact ⟨rfl, hb1⟩
    · rw [hn] at CC
      clear h hs hok hn
      go_enter Try.func16, Try.ntmps16
      go_wp2_with (go_at_call 14; refine (show Calls Try.prog _ _ _ (SWOut (idxL xs s) 0 w) from CC.out).mono ?_; rintro e w1 ⟨A1, n1, c1, rfl, _, hb1⟩)
      go_ret2
      exact ⟨rfl, hb1⟩
end Go.Proofs.Ytdbbolnmcbhflaa
