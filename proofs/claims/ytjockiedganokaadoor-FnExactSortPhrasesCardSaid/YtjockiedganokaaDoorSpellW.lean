/-
  The contracts of spec.l03Code, spec.SpellWord and spec.CanWrite.
-/
import Derived.Test.YtjockiedganokaaDoorSpellS
namespace Go.Proofs.YtjockiedganokaaDoor
set_option linter.unusedVariables false
open Go.RowKit

def okW (xs : List ByteArray) (s : ByteArray) : Bool := alphaB xs && wordB s
def NoPost (w : World) (code : Int) (e : Ending) (w' : World) : Prop := e = .returned (.tuple #[.slice none 0 0, .int .i64 code]) ∧ Below w.heap.size w w'
def RowPost (xs : List ByteArray) (s : ByteArray) (w : World) (e : Ending) (w' : World) : Prop :=
  ∃ v, e = .returned (.tuple #[v, .int .i64 0]) ∧ w'.ownsRow w.heap.size 2 1 v (idxL xs s).length (intV (idxL xs s)) ∧ Below w.heap.size w w'

theorem tSpell (A : Option Addr) (n cap : Nat) (xs : List ByteArray) (s : ByteArray) (w : World) (ha : alphaB xs = true) (hz : s.size ≤ 1048576) (h : TextAt w w.heap.size A n xs) :
    Calls Tryd.prog 51 #[.slice A n cap, .string s] w (SpellPost xs s w (.bool true) (.bool false)) := by
  have hl := alpha_len xs ha
  obtain ⟨b, o, rfl, hb, hc⟩ := h.2 (by have := h.1; omega)
  exact cSpellS b o cap n xs s w h.1 (alpha_good xs ha) (by have := h.1; omega) hz hb hc
theorem tSpell_no (A : Option Addr) (n cap : Nat) (xs : List ByteArray) (s : ByteArray) (w : World) (ha : alphaB xs = true) (hz : s.size ≤ 1048576) (h : TextAt w w.heap.size A n xs) (hn : spellsB xs s = false) :
    Calls Tryd.prog 51 #[.slice A n cap, .string s] w fun e w' => e = .returned (.tuple #[.slice none 0 0, .bool false]) ∧ Below w.heap.size w w' := by
  refine (tSpell A n cap xs s w ha hz h).mono ?_
  rintro e w' (⟨_, h1, h2⟩ | ⟨h0, _⟩)
  · exact ⟨h1, h2⟩
  · rw [hn] at h0; cases h0
theorem tSpell_yes (A : Option Addr) (n cap : Nat) (xs : List ByteArray) (s : ByteArray) (w : World) (ha : alphaB xs = true) (hz : s.size ≤ 1048576) (h : TextAt w w.heap.size A n xs) (hn : spellsB xs s = true) :
    Calls Tryd.prog 51 #[.slice A n cap, .string s] w fun e w' => ∃ v, e = .returned (.tuple #[v, .bool true]) ∧ w'.ownsRow w.heap.size 2 1 v (idxL xs s).length (intV (idxL xs s)) ∧ Below w.heap.size w w' := by
  refine (tSpell A n cap xs s w ha hz h).mono ?_
  rintro e w' (⟨h0, _⟩ | ⟨_, h1⟩)
  · rw [hn] at h0; cases h0
  · exact h1

def canV (xs : List ByteArray) (s : ByteArray) : Value := if okW xs s then .tuple #[.bool (spellsB xs s), .int .i64 0] else .tuple #[.bool false, .int .i64 1]
end Go.Proofs.YtjockiedganokaaDoor
