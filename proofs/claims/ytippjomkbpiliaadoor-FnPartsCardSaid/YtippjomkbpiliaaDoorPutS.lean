/-
  The contracts of impl.PutTogether and spec.PutTogether.
-/
import Derived.Test.YtippjomkbpiliaaDoorPt
namespace Go.Proofs.YtippjomkbpiliaaDoor
set_option linter.unusedVariables false
set_option linter.unusedSimpArgs false
open Go.RowKit Go.Sort Go.Lib

/-- The phrase with the Generic t before or behind the Specific s. -/
def togB (s t : ByteArray) (first : Bool) : ByteArray := if t = ByteArray.empty then s else if first then t ++ ⟨#[32]⟩ ++ s else s ++ ⟨#[32]⟩ ++ t
def okP (s t : ByteArray) (first : Bool) : Bool := phraseB s && (decide (t = ByteArray.empty) || (wordB t && phraseB (togB s t first)))
def ptS (s t : ByteArray) (first : Bool) : ByteArray := if okP s t first then togB s t first else ByteArray.empty
def ptC (s t : ByteArray) (first : Bool) : Int := if okP s t first then 0 else 1
theorem pt_bad {s t : ByteArray} {first : Bool} (h : okP s t first = false) : ptS s t first = ByteArray.empty ∧ ptC s t first = 1 := by unfold ptS ptC; rw [h]; exact ⟨rfl, rfl⟩
theorem pt_ok {s t : ByteArray} {first : Bool} (h : okP s t first = true) : ptS s t first = togB s t first ∧ ptC s t first = 0 := by unfold ptS ptC; rw [h]; exact ⟨rfl, rfl⟩
theorem tog_none (s : ByteArray) (first : Bool) : togB s ByteArray.empty first = s := by unfold togB; rw [if_pos rfl]
theorem tog_first {s t : ByteArray} (h : t ≠ ByteArray.empty) : togB s t true = t ++ ⟨#[32]⟩ ++ s := by unfold togB; rw [if_neg h]; rfl
theorem tog_last {s t : ByteArray} (h : t ≠ ByteArray.empty) : togB s t false = s ++ ⟨#[32]⟩ ++ t := by unfold togB; rw [if_neg h]; rfl
theorem empty_list (t : ByteArray) : (t.toList == ([] : List UInt8)) = decide (t = ByteArray.empty) := by
  rw [show ([] : List UInt8) = ByteArray.empty.toList from by rw [ByteArray.toList_eq]; rfl]
  exact toList_beq t ByteArray.empty
theorem tog_size (s t : ByteArray) (first : Bool) : (togB s t first).size ≤ s.size + t.size + 1 := by
  have h1 : (⟨#[32]⟩ : ByteArray).size = 1 := rfl
  unfold togB
  split
  · omega
  · split <;> (rw [ByteArray.size_append, ByteArray.size_append]; omega)

theorem cTog (s t : ByteArray) (first : Bool) (w : World) (h0 : s.size ≤ 1048576) (h1 : t.size ≤ 1048576) :
    Calls Tryd.prog 40 #[.agg #[.string s, .string t], .bool first] w fun e w' => e = .returned (.string (togB s t first)) ∧ Below w.heap.size w w' := by
  have hb : Hid (Below w.heap.size w (w.alloc (.cells #[.string s, .string t] 28))) := Lib.hid ((Below.refl _ _).alloc (Nat.le_refl _) _)
  have he := empty_list t
  by_cases h : t = ByteArray.empty
  · rw [decide_eq_true h] at he
    have HT : Hid (togB s t first = s) := Lib.hid (by rw [h]; exact tog_none s first)
    clear h
    go_enter Tryd.func40, Tryd.ntmps40
    go_wp2
    go_ret
    exact ⟨by rw [HT.out]; rfl, hb.out⟩
  · rw [decide_eq_false h] at he
    cases first
    · have HT := Lib.hid (tog_last (s := s) h)
      clear h
      go_enter Tryd.func40, Tryd.ntmps40
      go_wp2
      go_ret
      exact ⟨by rw [HT.out]; rfl, hb.out⟩
    · have HT := Lib.hid (tog_first (s := s) h)
      clear h
      go_enter Tryd.func40, Tryd.ntmps40
      go_wp2
      go_ret
      exact ⟨by rw [HT.out]; rfl, hb.out⟩

set_option maxHeartbeats 1000000 in
theorem cPut_spec (s t : ByteArray) (first : Bool) (w : World) (h0 : s.size ≤ 1048576) (h1 : t.size ≤ 1048576) :
    Calls Tryd.prog 13 #[.agg #[.string s, .string t], .bool first] w fun e w' => e = .returned (.tuple #[.string (ptS s t first), .int .i64 (ptC s t first)]) ∧ Below w.heap.size w w' := by
  have HB0 : Hid (Below w.heap.size w (w.alloc (.cells #[.string s, .string t] 28))) := Lib.hid ((Below.refl _ _).alloc (Nat.le_refl _) _)
  have HK := Lib.hid (PB.new w s t)
  have C1 := Lib.hid (fun W => cIsPhrase_spec s W (by omega))
  have C2 := Lib.hid (fun W => cIsWord_spec t W (by unfold maxLen; omega))
  have C3 := Lib.hid (fun W => cTog s t first W h0 h1)
  have C4 := Lib.hid (fun W => cIsPhrase_spec (togB s t first) W (by have := tog_size s t first; omega))
  have he := empty_list t
  have he2 : (t.toList != ([] : List UInt8)) = !decide (t = ByteArray.empty) := by rw [bne, he]
  have HOK : Hid (okP s t first = (phraseB s && (decide (t = ByteArray.empty) || (wordB t && phraseB (togB s t first))))) := Lib.hid rfl
  cases hp : phraseB s
  · rw [hp] at C1 HOK
    obtain ⟨e1, e2⟩ := pt_bad (by rw [HOK.out]; rfl)
    rw [e1, e2]
    clear e1 e2 hp
    go_enter Tryd.func13, Tryd.ntmps13
    go_wp2_with fail
    refine (C1.out _).mono ?_
    rintro e w1 ⟨rfl, hb1⟩
    have B1 := bstepP HB0.out HB0.out.size hb1
    go_wp2_with fail
    go_ret2
    exact ⟨rfl, B1⟩
  rw [hp] at C1 HOK
  by_cases h : t = ByteArray.empty
  · rw [decide_eq_true h] at he he2 HOK
    obtain ⟨e1, e2⟩ := pt_ok (by rw [HOK.out]; rfl)
    rw [e1, e2]
    have HT : Hid (togB s t first = s) := Lib.hid (by rw [h]; exact tog_none s first)
    rw [HT.out] at C3 C4 ⊢
    rw [hp] at C4
    clear e1 e2 hp h
    go_enter Tryd.func13, Tryd.ntmps13
    go_wp2_with fail
    refine (C1.out _).mono ?_
    rintro e w1 ⟨rfl, hb1⟩
    have B1 := bstepP HB0.out HB0.out.size hb1
    have K1 := HK.out.below hb1
    obtain ⟨⟨l3, a0, a1⟩, f0, f1⟩ := id K1
    clear hb1
    go_wp2_with fail
    refine (C3.out _).mono ?_
    rintro e w2 ⟨rfl, hb2⟩
    have B2 := bstepP B1 B1.size hb2
    clear hb2
    go_wp2_with fail
    refine (C4.out _).mono ?_
    rintro e w3 ⟨rfl, hb3⟩
    have B3 := bstepP B2 B2.size hb3
    go_wp2_with fail
    go_ret2
    exact ⟨rfl, B3⟩
  rw [decide_eq_false h] at he he2 HOK
  cases hw : wordB t
  · rw [hw] at C2 HOK
    obtain ⟨e1, e2⟩ := pt_bad (by rw [HOK.out]; rfl)
    rw [e1, e2]
    clear e1 e2 hp h hw
    go_enter Tryd.func13, Tryd.ntmps13
    go_wp2_with fail
    refine (C1.out _).mono ?_
    rintro e w1 ⟨rfl, hb1⟩
    have B1 := bstepP HB0.out HB0.out.size hb1
    have K1 := HK.out.below hb1
    obtain ⟨⟨l3, a0, a1⟩, f0, f1⟩ := id K1
    clear hb1
    go_wp2_with (go_at_call 39; refine (C2.out _).mono ?_; rintro e w' ⟨rfl, rfl⟩)
    go_ret2
    exact ⟨rfl, B1⟩
  rw [hw] at C2 HOK
  cases hq : phraseB (togB s t first)
  · rw [hq] at C4 HOK
    obtain ⟨e1, e2⟩ := pt_bad (by rw [HOK.out]; rfl)
    rw [e1, e2]
    clear e1 e2 hp h hw hq
    generalize togB s t first = T at C3 C4
    go_enter Tryd.func13, Tryd.ntmps13
    go_wp2_with fail
    refine (C1.out _).mono ?_
    rintro e w1 ⟨rfl, hb1⟩
    have B1 := bstepP HB0.out HB0.out.size hb1
    have K1 := HK.out.below hb1
    obtain ⟨⟨l3, a0, a1⟩, f0, f1⟩ := id K1
    clear hb1
    go_wp2_with (go_at_call 39; refine (C2.out _).mono ?_; rintro e w' ⟨rfl, rfl⟩)
    refine (C3.out _).mono ?_
    rintro e w2 ⟨rfl, hb2⟩
    have B2 := bstepP B1 B1.size hb2
    clear hb2
    go_wp2_with fail
    refine (C4.out _).mono ?_
    rintro e w3 ⟨rfl, hb3⟩
    have B3 := bstepP B2 B2.size hb3
    go_wp2_with fail
    go_ret2
    exact ⟨rfl, B3⟩
  · rw [hq] at C4 HOK
    obtain ⟨e1, e2⟩ := pt_ok (by rw [HOK.out]; rfl)
    rw [e1, e2]
    clear e1 e2 hp h hw hq HOK
    generalize togB s t first = T at C3 C4 ⊢
    go_enter Tryd.func13, Tryd.ntmps13
    go_wp2_with fail
    refine (C1.out _).mono ?_
    rintro e w1 ⟨rfl, hb1⟩
    have B1 := bstepP HB0.out HB0.out.size hb1
    have K1 := HK.out.below hb1
    obtain ⟨⟨l3, a0, a1⟩, f0, f1⟩ := id K1
    clear hb1
    go_wp2_with (go_at_call 39; refine (C2.out _).mono ?_; rintro e w' ⟨rfl, rfl⟩)
    refine (C3.out _).mono ?_
    rintro e w2 ⟨rfl, hb2⟩
    have B2 := bstepP B1 B1.size hb2
    clear hb2
    go_wp2_with fail
    refine (C4.out _).mono ?_
    rintro e w3 ⟨rfl, hb3⟩
    have B3 := bstepP B2 B2.size hb3
    go_wp2_with fail
    go_ret2
    exact ⟨rfl, B3⟩
end Go.Proofs.YtippjomkbpiliaaDoor
