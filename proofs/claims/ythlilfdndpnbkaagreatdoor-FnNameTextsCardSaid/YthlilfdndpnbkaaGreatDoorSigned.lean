/-
  The contract of spec.l01Signed: which texts it takes, and the number that it reads.
-/
import Derived.Test.YthlilfdndpnbkaaGreatDoorValue
namespace Go.Proofs.YthlilfdndpnbkaaGreatDoor
set_option linter.unusedVariables false
open Go.RowKit

def restOf (s : ByteArray) : ByteArray := s.extract 1 s.size
def isNeg (s : ByteArray) : Bool := decide (s.data.toList.head? = some 45)
def sN (s : ByteArray) : Int := if isNeg s then -(vN (restOf s) : Int) else vN s
def sB (s : ByteArray) : Bool := if isNeg s then vB (restOf s) && decide (0 < vN (restOf s)) else vB s
theorem sN_bd (s : ByteArray) : -9999999999999 ≤ sN s ∧ sN s ≤ 9999999999999 := by
  have h1 := vN_le s
  have h2 := vN_le (restOf s)
  unfold sN; split <;> omega
theorem neg_split {s : ByteArray} (h : isNeg s = true) : s = ⟨#[45]⟩ ++ restOf s := by
  unfold isNeg at h
  have h1 : s.data.toList.head? = some 45 := by simpa using h
  apply ByteArray.ext
  apply Array.toList_inj.1
  unfold restOf
  rw [ByteArray.data_append, Array.toList_append, Lib.extract_data]
  cases hl : s.data.toList with
  | nil => rw [hl] at h1; cases h1
  | cons c r =>
    rw [hl] at h1
    obtain rfl : c = 45 := by simpa using h1
    have hs : s.size = r.length + 1 := by have := congrArg List.length hl; simpa using this
    rw [hs]; simp
theorem neg_dec (m : Nat) : isNeg (⟨#[45]⟩ ++ decB m) = true ∧ restOf (⟨#[45]⟩ ++ decB m) = decB m := by
  refine ⟨by unfold isNeg; simp, ?_⟩
  unfold restOf
  apply ByteArray.ext
  apply Array.toList_inj.1
  rw [Lib.extract_data]
  have : (⟨#[45]⟩ ++ decB m).size = (decB m).data.toList.length + 1 := by rw [ByteArray.size_append]; simp; show 1 + _ = _; omega
  rw [this]; simp
  exact List.take_of_length_le (by simp)
theorem pos_dec (m : Nat) : isNeg (decB m) = false := by
  unfold isNeg
  rw [decB_data]
  obtain ⟨d1, _, d3⟩ := dec_digits m
  cases hl : Lib.decDigits m with
  | nil => exact absurd hl d3
  | cons c r =>
    have hc := first_digit d1 hl
    simp only [List.head?_cons]
    apply decide_eq_false
    intro h
    injection h with h
    rw [h] at hc
    have : (45 : UInt8).toNat = 45 := rfl
    omega
/-- A text that is read is the text of the number. -/
theorem sB_num {s : ByteArray} (h : sB s = true) : numB (sN s) = s := by
  unfold sB at h
  unfold sN
  cases hn : isNeg s
  · rw [hn] at h
    rw [if_neg (by simp)] at h ⊢
    rw [numB_pos _ (by omega)]
    simp only [Int.toNat_natCast]
    exact vB_num h
  · rw [hn] at h
    rw [if_pos rfl] at h ⊢
    rw [Bool.and_eq_true] at h
    have h2 : 0 < vN (restOf s) := by simpa using h.2
    rw [numB_neg _ (by omega)]
    have h3 : (-(vN (restOf s) : Int)).natAbs = vN (restOf s) := by omega
    rw [h3, vB_num h.1]
    exact (neg_split hn).symm
/-- The text of a number is read as the number. -/
theorem sB_of (n : Int) (h1 : -9999999999999 ≤ n) (h2 : n ≤ 9999999999999) : sB (numB n) = true ∧ sN (numB n) = n := by
  by_cases h : n < 0
  · rw [numB_neg n h]
    have hd := neg_dec n.natAbs
    have hv := vB_dec n.natAbs (by omega)
    unfold sB sN
    rw [hd.1, if_pos rfl, if_pos rfl, hd.2, hv.1, hv.2]
    refine ⟨?_, by omega⟩
    rw [Bool.true_and]; exact decide_eq_true (by omega)
  · rw [numB_pos n h]
    have hv := vB_dec n.toNat (by omega)
    unfold sB sN
    rw [pos_dec, if_neg (by simp), if_neg (by simp), hv.1, hv.2]
    exact ⟨rfl, by omega⟩
theorem extract_sz (s : ByteArray) : (restOf s).size ≤ s.size := by unfold restOf; rw [ByteArray.size_extract]; omega

set_option maxHeartbeats 1000000 in
theorem cSigned (s : ByteArray) (w : World) (hs : s.size ≤ 1073741824) :
    Calls Tryz.prog 100 #[.string s] w fun e w' => e = .returned (.tuple #[.int .i64 (sN s), .bool (sB s)]) ∧ Below w.heap.size w w' := by
  have C1 := Lib.hid (cValue s w hs)
  have C2 := Lib.hid (cValue (restOf s) w (Nat.le_trans (extract_sz s) hs))
  by_cases h0 : s.size = 0
  · have hn : isNeg s = false := by
      unfold isNeg
      have : s.data.toList = [] := List.eq_nil_of_length_eq_zero (by simpa using h0)
      rw [this]; rfl
    have HS : Hid (sN s = vN s ∧ sB s = vB s) := Lib.hid (by unfold sN sB; rw [hn]; exact ⟨rfl, rfl⟩)
    have z1 : decide (0 < s.size) = false := decide_eq_false (by omega)
    have z2 : decide ((0 : Int) < (s.size : Int)) = false := decide_eq_false (by omega)
    clear hn h0
    go_enter Tryz.func100, Tryz.ntmps100
    go_wp2_with fail
    refine C1.out.mono ?_
    rintro e w1 ⟨rfl, hb⟩
    go_wp2_with fail
    go_ret2
    exact ⟨by rw [HS.out.1, HS.out.2]; rfl, hb⟩
  have hpos : 0 < s.size := by omega
  have hh : s.data.toList.head? = some s[0] := by
    rw [List.head?_eq_getElem?, List.getElem?_eq_getElem (by simpa using hpos)]; rfl
  have z1 : decide (0 < s.size) = true := decide_eq_true hpos
  have z2 : decide ((0 : Int) < (s.size : Int)) = true := decide_eq_true (by omega)
  by_cases hc : s[0] = 45
  · have hn : isNeg s = true := by unfold isNeg; rw [hh, hc]; rfl
    have z3 : ((s[0].toNat : Int) == 45) = true := by rw [hc]; rfl
    have hle := vN_le (restOf s)
    have HS : Hid (sN s = -(vN (restOf s) : Int) ∧ sB s = (vB (restOf s) && decide (0 < vN (restOf s)))) := Lib.hid (by unfold sN sB; rw [hn]; exact ⟨rfl, rfl⟩)
    obtain ⟨m, hm⟩ : ∃ m, m = vN (restOf s) := ⟨_, rfl⟩
    obtain ⟨r, hr⟩ : ∃ r, r = restOf s := ⟨_, rfl⟩
    have hre : s.extract 1 s.size = r := by rw [hr]; rfl
    rw [← hm] at C2 hle HS
    rw [← hr] at C2 HS hm
    clear hh hn hc h0 hr hm
    cases hv : vB r
    · rw [hv] at C2 HS
      clear hv
      go_enter Tryz.func100, Tryz.ntmps100
      go_wp2_with fail
      refine C2.out.mono ?_
      rintro e w1 ⟨rfl, hb⟩
      go_wp2_with fail
      go_ret2
      exact ⟨by rw [HS.out.1, HS.out.2]; rfl, hb⟩
    · rw [hv] at C2 HS
      clear hv
      by_cases hm0 : 0 < m
      · have z4 : decide ((0 : Int) < (m : Int)) = true := decide_eq_true (by omega)
        have z5 : decide (0 < m) = true := decide_eq_true hm0
        have HS2 : Hid (sN s = -(m : Int) ∧ sB s = true) := Lib.hid ⟨HS.out.1, by rw [HS.out.2, decide_eq_true hm0]; rfl⟩
        clear hm0 HS
        go_enter Tryz.func100, Tryz.ntmps100
        go_wp2_with fail
        refine C2.out.mono ?_
        rintro e w1 ⟨rfl, hb⟩
        go_wp2_with fail
        go_ret2
        exact ⟨by rw [HS2.out.1, HS2.out.2]; rfl, hb⟩
      · have z4 : decide ((0 : Int) < (m : Int)) = false := decide_eq_false (by omega)
        have z5 : decide (0 < m) = false := decide_eq_false hm0
        have HS2 : Hid (sN s = -(m : Int) ∧ sB s = false) := Lib.hid ⟨HS.out.1, by rw [HS.out.2, decide_eq_false hm0]; rfl⟩
        clear hm0 HS
        go_enter Tryz.func100, Tryz.ntmps100
        go_wp2_with fail
        refine C2.out.mono ?_
        rintro e w1 ⟨rfl, hb⟩
        go_wp2_with fail
        go_ret2
        exact ⟨by rw [HS2.out.1, HS2.out.2]; rfl, hb⟩
  · have hn : isNeg s = false := by
      unfold isNeg; rw [hh]; apply decide_eq_false; intro e; injection e with e; exact hc e
    have z3 : ((s[0].toNat : Int) == 45) = false := by
      rw [beq_eq_false_iff_ne]; intro e; exact hc (UInt8.toNat_inj.1 (by have : (45 : UInt8).toNat = 45 := rfl
                                                                         omega))
    have HS : Hid (sN s = vN s ∧ sB s = vB s) := Lib.hid (by unfold sN sB; rw [hn]; exact ⟨rfl, rfl⟩)
    clear hn hc hh h0
    go_enter Tryz.func100, Tryz.ntmps100
    go_wp2_with fail
    refine C1.out.mono ?_
    rintro e w1 ⟨rfl, hb⟩
    go_wp2_with fail
    go_ret2
    exact ⟨by rw [HS.out.1, HS.out.2]; rfl, hb⟩
end Go.Proofs.YthlilfdndpnbkaaGreatDoor
