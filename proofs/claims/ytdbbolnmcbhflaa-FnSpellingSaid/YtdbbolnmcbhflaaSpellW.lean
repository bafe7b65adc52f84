/-
  The contracts of spec.l03Code, spec.SpellWord and spec.CanWrite.
-/
import Derived.Test.YtdbbolnmcbhflaaSpellS
namespace Go.Proofs.Ytdbbolnmcbhflaa
set_option linter.unusedVariables false
open Go.RowKit

def okW (xs : List ByteArray) (s : ByteArray) : Bool := alphaB xs && wordB s
def NoPost (w : World) (code : Int) (e : Ending) (w' : World) : Prop := e = .returned (.tuple #[.slice none 0 0, .int .i64 code]) ∧ Below w.heap.size w w'
def RowPost (xs : List ByteArray) (s : ByteArray) (w : World) (e : Ending) (w' : World) : Prop :=
  ∃ v, e = .returned (.tuple #[v, .int .i64 0]) ∧ w'.ownsRow w.heap.size 2 1 v (idxL xs s).length (intV (idxL xs s)) ∧ Below w.heap.size w w'

theorem tCode (A : Option Addr) (n cap B : Nat) (xs : List ByteArray) (s : ByteArray) (w : World) (hbig : n ≤ 1048576) (hs : ∀ x ∈ xs, x.size ≤ maxLen) (h : TextAt w B A n xs) (hsz : s.size ≤ maxLen) :
    Calls Try.prog 39 #[.slice A n cap, .string s] w fun e w' => e = .returned (.int .i64 (if okW xs s then 0 else 1)) ∧ w = w' := by
  have CI := Lib.hid (tIsAlpha_spec A n cap B xs w hbig hs h)
  have CW := Lib.hid (fun W => cIsWord_spec s W hsz)
  unfold okW
  cases ha : alphaB xs <;> cases hw : wordB s
  all_goals
    rw [ha] at CI
    rw [hw] at CW
    clear h hs ha hw
    go_enter Try.func39, Try.ntmps39
    go_wp2_with (first
      | (go_at_call 57; refine CI.out.mono ?_; rintro e w' ⟨rfl, rfl⟩)
      | (go_at_call 50; refine (CW.out _).mono ?_; rintro e w' ⟨rfl, rfl⟩))
    go_ret
    exact ⟨rfl, rfl⟩

theorem tSpell (A : Option Addr) (n cap : Nat) (xs : List ByteArray) (s : ByteArray) (w : World) (ha : alphaB xs = true) (hz : s.size ≤ 1048576) (h : TextAt w w.heap.size A n xs) :
    Calls Try.prog 40 #[.slice A n cap, .string s] w (SpellPost xs s w (.bool true) (.bool false)) := by
  have hl := alpha_len xs ha
  obtain ⟨b, o, rfl, hb, hc⟩ := h.2 (by have := h.1; omega)
  exact cSpellS b o cap n xs s w h.1 (alpha_good xs ha) (by have := h.1; omega) hz hb hc
theorem tSpell_no (A : Option Addr) (n cap : Nat) (xs : List ByteArray) (s : ByteArray) (w : World) (ha : alphaB xs = true) (hz : s.size ≤ 1048576) (h : TextAt w w.heap.size A n xs) (hn : spellsB xs s = false) :
    Calls Try.prog 40 #[.slice A n cap, .string s] w fun e w' => e = .returned (.tuple #[.slice none 0 0, .bool false]) ∧ Below w.heap.size w w' := by
  refine (tSpell A n cap xs s w ha hz h).mono ?_
  rintro e w' (⟨_, h1, h2⟩ | ⟨h0, _⟩)
  · exact ⟨h1, h2⟩
  · rw [hn] at h0; cases h0
theorem tSpell_yes (A : Option Addr) (n cap : Nat) (xs : List ByteArray) (s : ByteArray) (w : World) (ha : alphaB xs = true) (hz : s.size ≤ 1048576) (h : TextAt w w.heap.size A n xs) (hn : spellsB xs s = true) :
    Calls Try.prog 40 #[.slice A n cap, .string s] w fun e w' => ∃ v, e = .returned (.tuple #[v, .bool true]) ∧ w'.ownsRow w.heap.size 2 1 v (idxL xs s).length (intV (idxL xs s)) ∧ Below w.heap.size w w' := by
  refine (tSpell A n cap xs s w ha hz h).mono ?_
  rintro e w' (⟨h0, _⟩ | ⟨_, h1⟩)
  · rw [hn] at h0; cases h0
  · exact h1

theorem tSpellW_bad (A : Option Addr) (n cap : Nat) (xs : List ByteArray) (s : ByteArray) (w : World) (hbig : n ≤ 1048576) (hs : ∀ x ∈ xs, x.size ≤ maxLen) (h : TextAt w w.heap.size A n xs) (hz : s.size ≤ 1048576) (hok : okW xs s = false) :
    Calls Try.prog 15 #[.slice A n cap, .string s] w (NoPost w 1) := by
  have CC := Lib.hid (tCode A n cap _ xs s w hbig hs h (by unfold maxLen; omega))
  rw [hok] at CC
  clear h hs hok
  go_enter Try.func15, Try.ntmps15
  go_wp2_with (go_at_call 39; refine CC.out.mono ?_; rintro e w' ⟨rfl, rfl⟩)
  go_ret2
  exact ⟨rfl, Below.refl _ _⟩
theorem tSpellW_miss (A : Option Addr) (n cap : Nat) (xs : List ByteArray) (s : ByteArray) (w : World) (hbig : n ≤ 1048576) (hs : ∀ x ∈ xs, x.size ≤ maxLen) (h : TextAt w w.heap.size A n xs) (hz : s.size ≤ 1048576) (hok : okW xs s = true) (hn : spellsB xs s = false) :
    Calls Try.prog 15 #[.slice A n cap, .string s] w (NoPost w 4) := by
  have CC := Lib.hid (tCode A n cap _ xs s w hbig hs h (by unfold maxLen; omega))
  rw [hok] at CC
  have CS := Lib.hid (tSpell_no A n cap xs s w (by unfold okW at hok; rw [Bool.and_eq_true] at hok; exact hok.1) hz h hn)
  clear h hs hok
  go_enter Try.func15, Try.ntmps15
  go_wp2_with (first
    | (go_at_call 39; refine CC.out.mono ?_; rintro e w' ⟨rfl, rfl⟩)
    | (go_at_call 40; refine CS.out.mono ?_; rintro e w1 ⟨rfl, hb1⟩))
  go_ret2
  exact ⟨rfl, hb1⟩
theorem tSpellW_yes (A : Option Addr) (n cap : Nat) (xs : List ByteArray) (s : ByteArray) (w : World) (hbig : n ≤ 1048576) (hs : ∀ x ∈ xs, x.size ≤ maxLen) (h : TextAt w w.heap.size A n xs) (hz : s.size ≤ 1048576) (hok : okW xs s = true) (hn : spellsB xs s = true) :
    Calls Try.prog 15 #[.slice A n cap, .string s] w (RowPost xs s w) := by
  have CC := Lib.hid (tCode A n cap _ xs s w hbig hs h (by unfold maxLen; omega))
  rw [hok] at CC
  have CS := Lib.hid (tSpell_yes A n cap xs s w (by unfold okW at hok; rw [Bool.and_eq_true] at hok; exact hok.1) hz h hn)
  clear h hs hok
  go_enter Try.func15, Try.ntmps15
  go_wp2_with (first
    | (go_at_call 39; refine CC.out.mono ?_; rintro e w' ⟨rfl, rfl⟩)
    | (go_at_call 40; refine CS.out.mono ?_; rintro e w1 ⟨v, rfl, hown, hb1⟩))
  go_ret2
  exact ⟨_, rfl, hown, hb1⟩

def canV (xs : List ByteArray) (s : ByteArray) : Value := if okW xs s then .tuple #[.bool (spellsB xs s), .int .i64 0] else .tuple #[.bool false, .int .i64 1]
theorem tCan_spec (A : Option Addr) (n cap : Nat) (xs : List ByteArray) (s : ByteArray) (w : World) (hbig : n ≤ 1048576) (hs : ∀ x ∈ xs, x.size ≤ maxLen) (h : TextAt w w.heap.size A n xs) (hz : s.size ≤ 1048576) :
    Calls Try.prog 17 #[.slice A n cap, .string s] w fun e w' => e = .returned (canV xs s) ∧ Below w.heap.size w w' := by
  have CC := Lib.hid (tCode A n cap _ xs s w hbig hs h (by unfold maxLen; omega))
  cases hok : okW xs s
  · rw [hok] at CC
    have HV := Lib.hid (show canV xs s = .tuple #[.bool false, .int .i64 1] from by unfold canV; rw [hok]; rfl)
    clear h hs hok
    go_enter Try.func17, Try.ntmps17
    go_wp2_with (go_at_call 39; refine CC.out.mono ?_; rintro e w' ⟨rfl, rfl⟩)
    go_ret2
    exact ⟨by rw [HV.out]; rfl, Below.refl _ _⟩
  · rw [hok] at CC
    have ha : alphaB xs = true := by unfold okW at hok; rw [Bool.and_eq_true] at hok; exact hok.1
    have HV := Lib.hid (show canV xs s = .tuple #[.bool (spellsB xs s), .int .i64 0] from by unfold canV; rw [hok]; rfl)
    cases hn : spellsB xs s
    · have CS := Lib.hid (tSpell_no A n cap xs s w ha hz h hn)
      rw [hn] at HV
      clear h hs hok hn ha
      go_enter Try.func17, Try.ntmps17
      go_wp2_with (first
        | (go_at_call 39; refine CC.out.mono ?_; rintro e w' ⟨rfl, rfl⟩)
        | (go_at_call 40; refine CS.out.mono ?_; rintro e w1 ⟨rfl, hb1⟩))
      go_ret2
      exact ⟨by rw [HV.out]; rfl, hb1⟩
    · have CS := Lib.hid (tSpell_yes A n cap xs s w ha hz h hn)
      rw [hn] at HV
      clear h hs hok hn ha
      go_enter Try.func17, Try.ntmps17
      go_wp2_with (first
        | (go_at_call 39; refine CC.out.mono ?_; rintro e w' ⟨rfl, rfl⟩)
        | (go_at_call 40; refine CS.out.mono ?_; rintro e w1 ⟨v, rfl, hown, hb1⟩))
      go_ret2
      exact ⟨by rw [HV.out]; rfl, hb1⟩
end Go.Proofs.Ytdbbolnmcbhflaa
