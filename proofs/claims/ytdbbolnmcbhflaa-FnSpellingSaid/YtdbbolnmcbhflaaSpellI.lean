/-
  The contracts of impl.SpellWord and impl.CanWrite.
-/
import Derived.Test.YtdbbolnmcbhflaaSpelling
import Derived.Maps.AppendAt
namespace Go.Proofs.Ytdbbolnmcbhflaa
set_option linter.unusedVariables false
open Go.RowKit Go.Shelf
attribute [local go_sem] Oper.semAt_some

theorem tSpellI_bad (A : Option Addr) (n cap : Nat) (xs : List ByteArray) (s : ByteArray) (w : World) (hbig : n ≤ 1048576) (hs : ∀ x ∈ xs, x.size ≤ maxLen) (h : TextAt w w.heap.size A n xs) (hz : s.size ≤ 1048576) (hok : okW xs s = false) :
    Calls Try.prog 14 #[.slice A n cap, .string s] w (NoPost w 1) := by
  have CA := Lib.hid (tAlphaOf A n cap xs w hbig hs h)
  have CW := Lib.hid (fun W => cIsWord_impl s W (by unfold maxLen; omega))
  unfold okW at hok
  clear h hs
  cases ha : alphaB xs
  · rw [ha] at CA
    clear hok ha
    go_enter Try.func14, Try.ntmps14
    go_wp2_with (go_at_call 36; refine (show Calls Try.prog _ _ _ (fun e w' => e = .returned (.tuple #[.map none, .bool false]) ∧ _ ∧ Below w.heap.size w w') from CA.out).mono ?_; rintro e w1 ⟨rfl, _, hb1⟩)
    go_ret2
    exact ⟨rfl, hb1⟩
  · rw [ha] at CA
    have hw : wordB s = false := by rw [ha] at hok; simpa using hok
    rw [hw] at CW
    clear hok ha hw
    go_enter Try.func14, Try.ntmps14
    go_wp2_with (first
      | (go_at_call 36; refine (show Calls Try.prog _ _ _ (fun e w' => e = .returned (.tuple #[.map (some w.heap.size), .bool true]) ∧ _ ∧ Below w.heap.size w w') from CA.out).mono ?_; rintro e w1 ⟨rfl, _, hb1⟩)
      | (go_at_call 37; refine (CW.out _).mono ?_; rintro e w' ⟨rfl, rfl⟩))
    go_ret2
    exact ⟨rfl, hb1⟩

set_option maxHeartbeats 1000000 in
theorem tSpellI (A : Option Addr) (n cap : Nat) (xs : List ByteArray) (s : ByteArray) (w : World) (hbig : n ≤ 1048576) (hs : ∀ x ∈ xs, x.size ≤ maxLen) (h : TextAt w w.heap.size A n xs) (hz : s.size ≤ 1048576) (hok : okW xs s = true) :
    Calls Try.prog 14 #[.slice A n cap, .string s] w (SpellPost xs s w (.int .i64 0) (.int .i64 4)) := by
  have CA := Lib.hid (tAlphaOf A n cap xs w hbig hs h)
  have CW := Lib.hid (fun W => cIsWord_impl s W (by unfold maxLen; omega))
  have ha : alphaB xs = true := by unfold okW at hok; rw [Bool.and_eq_true] at hok; exact hok.1
  have hw : wordB s = true := by unfold okW at hok; rw [Bool.and_eq_true] at hok; exact hok.2
  rw [ha] at CA
  rw [hw] at CW
  clear h hs hok ha hw
  go_enter Try.func14, Try.ntmps14
  go_wp2_with (first
    | (go_at_call 36; refine (show Calls Try.prog _ _ _ (fun e w' => e = .returned (.tuple #[.map (some w.heap.size), .bool true]) ∧ (true = true → Dict w' w.heap.size xs) ∧ Below w.heap.size w w') from CA.out).mono ?_; rintro e w1 ⟨rfl, hD0, hb1⟩; have HD := Lib.hid (hD0 rfl); clear hD0)
    | (go_at_call 37; refine (CW.out _).mono ?_; rintro e w' ⟨rfl, rfl⟩)
    | (go_at_call 38; refine (cSpelling w.heap.size xs s _ hz HD.out).mono ?_; rintro e w2 (⟨hsp, rfl, hb2⟩ | ⟨hsp, v, rfl, hown, hb2⟩)))
  · have HS := Lib.hid hsp
    clear hsp
    go_wp2_with fail
    go_ret2
    exact .inl ⟨HS.out, rfl, hb1.trans (hb2.mono hb1.size)⟩
  · have HS := Lib.hid hsp
    clear hsp
    go_wp2_with fail
    go_ret2
    exact .inr ⟨HS.out, v, rfl, rowBase hown hb1.size, hb1.trans (hb2.mono hb1.size)⟩
end Go.Proofs.Ytdbbolnmcbhflaa
