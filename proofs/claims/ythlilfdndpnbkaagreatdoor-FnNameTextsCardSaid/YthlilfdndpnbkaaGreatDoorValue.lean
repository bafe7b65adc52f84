/-
  The contracts of spec.l01Value and spec.l01Signed.
-/
import Derived.Test.YthlilfdndpnbkaaGreatDoorMg12
namespace Go.Proofs.YthlilfdndpnbkaaGreatDoor
set_option linter.unusedVariables false
open Go.RowKit

theorem eqB_yes (x old : ByteArray) (h : x = old) : (x.toList == old.toList) = true := by rw [h]; exact beq_self_eq_true _
theorem eqB_no (x old : ByteArray) (h : ¬ x = old) : (x.toList == old.toList) = false := by
  rw [beq_eq_false_iff_ne]
  intro e
  rw [ByteArray.toList_eq, ByteArray.toList_eq] at e
  exact h (ByteArray.ext (Array.toList_inj.1 e))

def vOk (s : ByteArray) : Bool := decide (1 ≤ s.size) && decide (s.size ≤ 13) && digAll s.data.toList
def vN (s : ByteArray) : Nat := if vOk s then valD s.data.toList else 0
def vB (s : ByteArray) : Bool := vOk s && decide (decB (valD s.data.toList) = s)
theorem vOk_no_size (s : ByteArray) (h : s.size < 1 ∨ 13 < s.size) : vOk s = false := by
  unfold vOk
  rcases h with h | h
  · rw [decide_eq_false (p := 1 ≤ s.size) (by omega)]; rfl
  · rw [decide_eq_false (p := s.size ≤ 13) (by omega), Bool.and_false]; rfl
theorem vOk_no_dig (s : ByteArray) (h : digAll s.data.toList = false) : vOk s = false := by unfold vOk; rw [h, Bool.and_false]
theorem vOk_yes (s : ByteArray) (h1 : 1 ≤ s.size) (h2 : s.size ≤ 13) (h : digAll s.data.toList = true) : vOk s = true := by unfold vOk; simp [h1, h2, h]
theorem v_no {s : ByteArray} (h : vOk s = false) : vN s = 0 ∧ vB s = false := by unfold vN vB; rw [h]; exact ⟨rfl, rfl⟩
theorem v_yes {s : ByteArray} (h : vOk s = true) : vN s = valD s.data.toList ∧ vB s = decide (decB (valD s.data.toList) = s) := by unfold vN vB; rw [h]; exact ⟨rfl, by simp⟩
theorem valD_lt : ∀ (n : Nat) (l : List UInt8), l.length = n → digAll l = true → valD l < 10 ^ l.length := by
  intro n
  induction n with
  | zero => intro l hl _; rw [List.eq_nil_of_length_eq_zero hl]; decide
  | succ n ih =>
    intro l hl h
    rcases List.eq_nil_or_concat l with h0 | ⟨r, c, h0⟩
    · rw [h0] at hl; simp at hl
    · rw [List.concat_eq_append] at h0
      subst h0
      unfold digAll at h
      rw [List.all_append, Bool.and_eq_true] at h
      have h1 := ih r (by simpa using hl) h.1
      have h2 : c.toNat ≤ 57 := by have := h.2; simp [digB] at this; omega
      rw [valD_snoc, List.length_append, List.length_singleton, Nat.pow_succ]
      omega
theorem vN_le (s : ByteArray) : vN s ≤ 9999999999999 := by
  unfold vN
  split
  · rename_i h
    unfold vOk at h
    simp at h
    have h1 := valD_lt _ _ rfl h.2
    have h2 : s.data.toList.length = s.size := by simp
    rw [h2] at h1
    have h3 : 10 ^ s.size ≤ 10 ^ 13 := Nat.pow_le_pow_right (by omega) h.1.2
    have h4 : (10 : Nat) ^ 13 = 10000000000000 := by decide
    omega
  · omega
theorem vB_num {s : ByteArray} (h : vB s = true) : decB (vN s) = s := by
  unfold vB at h
  rw [Bool.and_eq_true] at h
  rw [(v_yes h.1).1]
  simpa using h.2
theorem dec_size13 (n : Nat) (h : n ≤ 9999999999999) : (decB n).size ≤ 13 ∧ 1 ≤ (decB n).size := by
  have h1 : (decB n).size = Lib.nDigits n := by rw [← ByteArray.size_data, ← Lib.decDigits_length]; simp [decB]
  rw [h1]
  refine ⟨?_, Lib.nDigits_pos n⟩
  have key : ∀ (k n : Nat), n < 10 ^ (k + 1) → Lib.nDigits n ≤ k + 1 := by
    intro k
    induction k with
    | zero => intro n hn; rw [Lib.nDigits_small (by simpa using hn)]; omega
    | succ k ih =>
      intro n hn
      by_cases hs : n < 10
      · rw [Lib.nDigits_small hs]; omega
      · rw [Lib.nDigits_big hs]
        have := ih (n / 10) (by rw [Nat.pow_succ] at hn; omega)
        omega
  exact key 12 n (by have h4 : (10 : Nat) ^ 13 = 10000000000000 := by decide
                     omega)
theorem vB_dec (n : Nat) (h : n ≤ 9999999999999) : vB (decB n) = true ∧ vN (decB n) = n := by
  have hs := dec_size13 n h
  obtain ⟨d1, d2, _⟩ := dec_digits n
  have ho : vOk (decB n) = true := vOk_yes _ hs.2 hs.1 (by rw [decB_data]; exact d1)
  have hv : valD (decB n).data.toList = n := by rw [decB_data]; exact d2
  refine ⟨?_, by rw [(v_yes ho).1, hv]⟩
  rw [(v_yes ho).2, hv]; simp

theorem dig_zero (s : ByteArray) : digAll (s.data.toList.take 0) = true := rfl
theorem dig_step (s : ByteArray) (k : Nat) (h : k < s.size) (ha : digAll (s.data.toList.take k) = true) (hc : digB s[k] = true) : digAll (s.data.toList.take (k + 1)) = true := by
  rw [take_snoc s k h]; unfold digAll at *; simp [List.all_append, ha, hc]
theorem dig_stop (s : ByteArray) (k : Nat) (h : k < s.size) (hc : digB s[k] = false) : digAll s.data.toList = false := by
  unfold digAll
  rw [List.all_eq_false]
  exact ⟨s[k], List.getElem_mem (l := s.data.toList) (by simpa using h), by simp [hc]⟩
theorem digB_yes (c : UInt8) (h1 : (48 : Int) ≤ (c.toNat : Int)) (h2 : (c.toNat : Int) ≤ 57) : digB c = true := by
  unfold digB; simp; omega
theorem digB_no (c : UInt8) (h : (c.toNat : Int) < 48 ∨ (57 : Int) < (c.toNat : Int)) : digB c = false := by
  unfold digB; simp; omega

set_option maxHeartbeats 2000000 in
set_option maxRecDepth 100000 in
theorem cValue (s : ByteArray) (w : World) (hs : s.size ≤ 1073741824) :
    Calls Tryz.prog 53 #[.string s] w fun e w' => e = .returned (.tuple #[.int .i64 (vN s), .bool (vB s)]) ∧ Below w.heap.size w w' := by
  by_cases h0 : s.size < 1
  · have hv := v_no (vOk_no_size s (.inl h0))
    have HV := Lib.hid hv
    clear hv
    go_enter Tryz.func53, Tryz.ntmps53
    go_wp2_with fail
    go_ret2
    exact ⟨by rw [HV.out.1, HV.out.2]; rfl, Below.refl _ _⟩
  by_cases h13 : 13 < s.size
  · have hv := v_no (vOk_no_size s (.inr h13))
    have HV := Lib.hid hv
    clear hv
    go_enter Tryz.func53, Tryz.ntmps53
    go_wp2_with fail
    go_ret2
    exact ⟨by rw [HV.out.1, HV.out.2]; rfl, Below.refl _ _⟩
  go_enter Tryz.func53, Tryz.ntmps53
  go_wp2_with fail
  go_loop [4, 5] (fun n i => ∃ (k m : Nat), k ≤ s.size ∧ i = .int .i64 k ∧ n = .int .i64 m ∧ m ≤ 9999999999999 ∧ Hid (m = valD (s.data.toList.take k)) ∧ Hid (digAll (s.data.toList.take k) = true)) (fun _ i => s.size - (intOf i).toNat)
  case atStart => exact ⟨0, 0, Nat.zero_le _, rfl, rfl, by omega, Lib.hid rfl, Lib.hid (dig_zero s)⟩
  case round =>
    obtain ⟨k, m, hk, rfl, rfl, hm, HM, HA⟩ := hrel
    by_cases hlt : k < s.size
    · have hm12 : m ≤ 999999999999 := by
        have h1 := valD_lt _ _ rfl HA.out
        rw [← HM.out, List.length_take] at h1
        have h2 : s.data.toList.length = s.size := by simp
        have h3 : 10 ^ (min k s.data.toList.length) ≤ 10 ^ 12 := Nat.pow_le_pow_right (by omega) (by omega)
        have h4 : (10 : Nat) ^ 12 = 1000000000000 := by decide
        omega
      have hc255 : s[k].toNat < 256 := s[k].toNat_lt
      by_cases hd : digB s[k] = true
      · have hb : 48 ≤ s[k].toNat ∧ s[k].toNat ≤ 57 := by unfold digB at hd; simpa using hd
        have HD := Lib.hid (dig_step s k hlt HA.out hd)
        have b1 : (48 : Int) ≤ (s[k].toNat : Int) := by omega
        have b2 : (s[k].toNat : Int) ≤ 57 := by omega
        have HV := Lib.hid (take_snoc s k hlt)
        clear hd hb
        go_wp2_with fail
        go_round
        case rel => exact ⟨k + 1, 10 * m + (s[k].toNat - 48), by omega, by go_num, by go_num, by omega, Lib.hid (by rw [HV.out, valD_snoc, ← HM.out]; omega), HD⟩
        case measure => simp [intOf]; omega
      · have hd' : digB s[k] = false := by simpa using hd
        have hv := v_no (vOk_no_dig s (dig_stop s k hlt hd'))
        have HV := Lib.hid hv
        have hno : (s[k].toNat : Int) < 48 ∨ (57 : Int) < (s[k].toNat : Int) := by
          apply Classical.byContradiction; intro hh
          rw [digB_yes _ (by omega) (by omega)] at hd'; cases hd'
        clear hv hd hd'
        rcases hno with hno | hno
        all_goals
          go_wp2_with fail
          go_ret2
          exact ⟨by rw [HV.out.1, HV.out.2]; rfl, Below.refl _ _⟩
    · have hdig : digAll s.data.toList = true := by have := HA.out; rw [List.take_of_length_le (by simp; omega)] at this; exact this
      have hval : m = valD s.data.toList := by have := HM.out; rw [List.take_of_length_le (by simp; omega)] at this; exact this
      have hv := v_yes (vOk_yes s (by omega) (by omega) hdig)
      have CD := Lib.hid (cDec m m w (Nat.le_refl _) (by omega))
      rw [← hval] at hv
      clear hdig hval
      by_cases he : decB m = s
      · have HE := Lib.hid (eqB_yes _ _ he)
        have HV := Lib.hid hv
        have HEE := Lib.hid he
        clear hv he
        go_wp2_with fail
        refine CD.out.mono ?_
        rintro e w1 ⟨rfl, hb⟩
        have hz := HE.out
        go_wp2_with fail
        go_ret2
        exact ⟨by rw [HV.out.1, HV.out.2, decide_eq_true HEE.out]; rfl, hb⟩
      · have HE := Lib.hid (eqB_no _ _ he)
        have HV := Lib.hid hv
        have HEE := Lib.hid he
        clear hv he
        go_wp2_with fail
        refine CD.out.mono ?_
        rintro e w1 ⟨rfl, hb⟩
        have hz := HE.out
        go_wp2_with fail
        go_ret2
        exact ⟨by rw [HV.out.1, HV.out.2, decide_eq_false HEE.out]; rfl, hb⟩
end Go.Proofs.YthlilfdndpnbkaaGreatDoor
