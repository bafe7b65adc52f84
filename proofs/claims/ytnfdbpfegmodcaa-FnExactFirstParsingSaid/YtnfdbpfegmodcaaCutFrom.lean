/-
  The contracts of strings.CutPrefix, of a rule's cutFrom, and of spec.l05Fits.
-/
import Derived.Test.YtnfdbpfegmodcaaRule
import Derived.Test.YtnfdbpfegmodcaaRuleArgs
import Derived.Test.YtnfdbpfegmodcaaWaysPlain
import Derived.BigQuiet
import Derived.Deep.QuietTactic
namespace Go.Proofs.Ytnfdbpfegmodcaa
set_option linter.unusedVariables false
open Go.RowKit

theorem tbeq (a b : ByteArray) : (a.toList == b.toList) = decide (a.data.toList = b.data.toList) := by
  rw [ByteArray.toList_eq, ByteArray.toList_eq, Bool.eq_iff_iff, beq_iff_eq, decide_eq_true_eq]
theorem ext_take (s : ByteArray) (n : Nat) : (s.extract 0 n).data.toList = s.data.toList.take n := by
  simp [ByteArray.data_extract, Array.toList_extract, List.extract]
theorem ext_mid (s : ByteArray) (a n : Nat) : (s.extract a (a + n)).data.toList = (s.data.toList.drop a).take n := by
  simp [ByteArray.data_extract, Array.toList_extract, List.extract]
theorem ext_drop (s : ByteArray) (a : Nat) : (s.extract a s.size).data.toList = s.data.toList.drop a := by
  simp [ByteArray.data_extract, Array.toList_extract, List.extract]
  rw [List.take_of_length_le (by simp)]
theorem ext_len (s : ByteArray) (a b : Nat) (hb : b ≤ s.size) : (s.extract a b).size = b - a := by rw [ByteArray.size_extract]; omega

theorem below_drQ {B : Nat} {a w : World} (h : Below B a w) (m : Nat) : Below B a (w.drewN m) := ⟨h.os, h.tape, h.output, h.size, h.block⟩
def preB (s p : ByteArray) : Bool := decide (s.data.toList.take p.size = p.data.toList)
theorem pre_long {s p : ByteArray} (h : s.size < p.size) : preB s p = false := by
  unfold preB
  rw [decide_eq_false]
  intro e
  have := congrArg List.length e
  rw [List.length_take, size_toL, size_toL] at this
  omega
theorem pre_fit {s p : ByteArray} (h : 0 < p.size) : fitR p s.data.toList = preB s p := by
  rw [fit_is h]; unfold preB
  rw [Bool.eq_iff_iff, beq_iff_eq, decide_eq_true_eq]
theorem pre_le {s p : ByteArray} (h : preB s p = true) : p.size ≤ s.size := by
  rcases Nat.lt_or_ge s.size p.size with h1 | h1
  · rw [pre_long h1] at h; cases h
  · exact h1

theorem cHasPrefix (s p : ByteArray) (w : World) (hs : s.size ≤ maxLen) (hp : p.size ≤ maxLen) :
    Calls Try.prog 162 #[.string s, .string p] w fun e w' => e = .returned (.bool (preB s p)) ∧ w = w' := by
  unfold maxLen at hs hp
  by_cases h : p.size ≤ s.size
  · have hd : ((s.extract 0 p.size).toList == p.toList) = preB s p := by rw [tbeq, ext_take]; rfl
    cases hv : preB s p
    all_goals
      rw [hv] at hd
      clear hv
      go_enter Try.func162, Try.ntmps162
      go_wp2
      go_ret
      exact ⟨rfl, rfl⟩
  · have hv := Lib.hid (pre_long (s := s) (p := p) (by omega))
    go_enter Try.func162, Try.ntmps162
    go_wp2
    go_ret
    exact ⟨ret_bool hv.out.symm, rfl⟩

def cutV (s p : ByteArray) : Value := if preB s p then .tuple #[.string (s.extract p.size s.size), .bool true] else .tuple #[.string s, .bool false]
theorem cCutLite (s p : ByteArray) (w : World) (hs : s.size ≤ maxLen) (hp : p.size ≤ maxLen) :
    Calls Try.prog 152 #[.string s, .string p] w fun e w' => e = .returned (cutV s p) ∧ w = w' := by
  have C := Lib.hid (cHasPrefix s p w hs hp)
  unfold maxLen at hs hp
  cases hv : preB s p
  · rw [hv] at C
    have HV : Hid (cutV s p = .tuple #[.string s, .bool false]) := Lib.hid (by unfold cutV; rw [hv]; rfl)
    clear hv
    go_enter Try.func152, Try.ntmps152
    go_wp2_with (go_at_call 162; refine C.out.mono ?_; rintro e w' ⟨rfl, rfl⟩)
    go_ret2
    exact ⟨by rw [HV.out]; rfl, rfl⟩
  · have hl := pre_le hv
    rw [hv] at C
    have HV : Hid (cutV s p = .tuple #[.string (s.extract p.size s.size), .bool true]) := Lib.hid (by unfold cutV; rw [hv]; rfl)
    clear hv
    go_enter Try.func152, Try.ntmps152
    go_wp2_with (go_at_call 162; refine C.out.mono ?_; rintro e w' ⟨rfl, rfl⟩)
    go_ret2
    exact ⟨by rw [HV.out]; rfl, rfl⟩
theorem cut_yes {s p : ByteArray} (h : preB s p = true) : cutV s p = .tuple #[.string (s.extract p.size s.size), .bool true] := by unfold cutV; rw [h]; rfl
theorem cut_no {s p : ByteArray} (h : preB s p = false) : cutV s p = .tuple #[.string s, .bool false] := by unfold cutV; rw [h]; rfl
theorem cCutPrefix (s p : ByteArray) (w : World) (hs : s.size ≤ maxLen) (hp : p.size ≤ maxLen) :
    Calls Try.prog 130 #[.string s, .string p] w fun e w' => e = .returned (cutV s p) ∧ w = w' := by
  have C := Lib.hid (cCutLite s p w hs hp)
  unfold maxLen at hs hp
  cases hv : preB s p
  · rw [cut_no hv] at C ⊢
    clear hv
    go_enter Try.func130, Try.ntmps130
    go_wp2_with (go_at_call 152; refine C.out.mono ?_; rintro e w' ⟨rfl, rfl⟩)
    go_ret2
    exact ⟨rfl, rfl⟩
  · rw [cut_yes hv] at C ⊢
    clear hv
    go_enter Try.func130, Try.ntmps130
    go_wp2_with (go_at_call 152; refine C.out.mono ?_; rintro e w' ⟨rfl, rfl⟩)
    go_ret2
    exact ⟨rfl, rfl⟩

/-- What is left of a text behind a rule's text. -/
def CutPost (s p : ByteArray) (w : World) (e : Ending) (w' : World) : Prop :=
  Below w.heap.size w w' ∧ ((fitR p s.data.toList = true ∧ e = .returned (.tuple #[.string (s.extract p.size s.size), .bool true])) ∨ (fitR p s.data.toList = false ∧ ∃ t, e = .returned (.tuple #[.string t, .bool false])))
set_option maxHeartbeats 400000 in
theorem cCutFrom (A : Option Addr) (n c : Nat) (s p : ByteArray) (w : World) (hs : s.size ≤ maxLen) (hp : p.size ≤ maxLen) :
    Calls Try.prog 91 #[.agg #[.slice A n c, .string p], .string s] w (CutPost s p w) := by
  have C := Lib.hid (fun W => cCutPrefix s p W hs hp)
  have HB := Lib.hid (alloc_below w (.cells #[.slice A n c, .string p] 35))
  unfold maxLen at hs hp
  by_cases h0 : p.size = 0
  · have hd : (p.toList == ([] : List UInt8)) = true := by rw [toList_empty, decide_eq_true h0]
    have HX := Lib.hid (fit_empty (t := s.data.toList) h0)
    go_enter Try.func91, Try.ntmps91
    go_wp2
    go_ret2
    exact ⟨HB.out, .inr ⟨HX.out, _, rfl⟩⟩
  have hd : (p.toList == ([] : List UInt8)) = false := by rw [toList_empty, decide_eq_false h0]
  have HX := Lib.hid (pre_fit (s := s) (p := p) (by omega))
  cases hv : preB s p
  · rw [cut_no hv] at C
    rw [hv] at HX
    clear hv h0
    go_enter Try.func91, Try.ntmps91
    go_wp2_with (go_at_call 130; refine (C.out _).mono ?_; rintro e w' ⟨rfl, rfl⟩)
    go_ret2
    exact ⟨HB.out, .inr ⟨HX.out, _, rfl⟩⟩
  · rw [cut_yes hv] at C
    rw [hv] at HX
    clear hv h0
    go_enter Try.func91, Try.ntmps91
    go_wp2_with (go_at_call 130; refine (C.out _).mono ?_; rintro e w' ⟨rfl, rfl⟩)
    go_ret2
    exact ⟨HB.out, .inl ⟨HX.out, rfl⟩⟩

set_option maxHeartbeats 400000 in
theorem cFits (A : Option Addr) (n c a : Nat) (s p : ByteArray) (w : World) (hs : s.size ≤ maxLen) (hp : p.size ≤ maxLen) (ha : a ≤ s.size) :
    Calls Try.prog 129 #[.agg #[.slice A n c, .string p], .string s, .int .i64 a] w fun e w' => e = .returned (.bool (fitR p (s.data.toList.drop a))) ∧ Below w.heap.size w w' := by
  have HB := Lib.hid (alloc_below w (.cells #[.slice A n c, .string p] 35))
  unfold maxLen at hs hp
  by_cases h0 : p.size = 0
  · have HX := Lib.hid (fit_empty (t := s.data.toList.drop a) h0)
    go_enter Try.func129, Try.ntmps129
    go_wp2
    go_quiet (fail)
    go_wp2
    go_ret
    exact ⟨ret_bool HX.out.symm, below_drQ HB.out _⟩
  by_cases h1 : s.size - a < p.size
  · have HX := Lib.hid (fit_long (r := p) (t := s.data.toList.drop a) (by rw [List.length_drop, size_toL]; exact h1))
    have hd0 : decide (0 < p.size) = true := decide_eq_true (by omega)
    have hd1 : decide ((p.size : Int) ≤ (s.size : Int) - (a : Int)) = false := decide_eq_false (by omega)
    go_enter Try.func129, Try.ntmps129
    go_wp2
    go_quiet (fail)
    go_wp2
    go_ret
    exact ⟨ret_bool HX.out.symm, below_drQ HB.out _⟩
  have hd : ((s.extract a (a + p.size)).toList == p.toList) = fitR p (s.data.toList.drop a) := by
    rw [tbeq, ext_mid, fit_is (by omega), Bool.eq_iff_iff, beq_iff_eq, decide_eq_true_eq]
  have hd0 : decide (0 < p.size) = true := decide_eq_true (by omega)
  have hd1 : decide ((p.size : Int) ≤ (s.size : Int) - (a : Int)) = true := decide_eq_true (by omega)
  have e1 : (a : Int) ≤ (a : Int) + (p.size : Int) := by omega
  have e2 : (a : Int) + (p.size : Int) ≤ (s.size : Int) := by omega
  have h2' : a + p.size ≤ s.size := by omega
  have h3' : (0 : Int) < (p.size : Int) := by omega
  cases hv : fitR p (s.data.toList.drop a)
  all_goals
    rw [hv] at hd
    clear hv h1
    go_enter Try.func129, Try.ntmps129
    go_wp2
    go_quiet (fail)
    go_wp2
    go_ret
    exact ⟨rfl, below_drQ HB.out _⟩
end Go.Proofs.Ytnfdbpfegmodcaa
