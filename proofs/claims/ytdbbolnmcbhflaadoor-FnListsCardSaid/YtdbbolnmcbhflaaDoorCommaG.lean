/-
  The contract of spec.l01Join on numbers of at most thirteen digits.
-/
import Derived.Test.YtdbbolnmcbhflaaDoorNums
namespace Go.Proofs.YtdbbolnmcbhflaaDoor
set_option linter.unusedVariables false
open Go.RowKit

theorem cNumberG (n : Int) (w : World) (h1 : -9999999999999 ≤ n) (h2 : n ≤ 9999999999999) :
    Calls Tryd.prog 83 #[.int .i64 n] w fun e w' => e = .returned (.string (numB n)) ∧ Below w.heap.size w w' := by
  by_cases h : n < 0
  · have hc := cDec n.natAbs n.natAbs
    rw [show ((n.natAbs : Nat) : Int) = -n from by omega] at hc
    have HC := Lib.hid (fun W => hc W (Nat.le_refl _) (by omega))
    have HD := Lib.hid (numB_neg n h)
    have hsz := decB_len n.natAbs
    have hsz2 : (decB n.natAbs).size ≤ 10000000000000 := by omega
    clear hc hsz
    go_enter Tryd.func83, Tryd.ntmps83
    go_wp2_with fail
    refine (HC.out _).mono ?_
    rintro e w1 ⟨rfl, hb⟩
    go_wp2_with fail
    go_ret
    exact ⟨by rw [HD.out]; rfl, hb⟩
  · have hc := cDec n.toNat n.toNat
    rw [show ((n.toNat : Nat) : Int) = n from by omega] at hc
    have HC := Lib.hid (fun W => hc W (Nat.le_refl _) (by omega))
    have HD := Lib.hid (numB_pos n h)
    have h0 : 0 ≤ n := by omega
    clear hc
    go_enter Tryd.func83, Tryd.ntmps83
    go_wp2_with fail
    refine (HC.out _).mono ?_
    rintro e w1 ⟨rfl, hb⟩
    go_wp2_with fail
    go_ret
    exact ⟨by rw [HD.out]; rfl, hb⟩

set_option maxHeartbeats 1000000 in
set_option maxRecDepth 100000 in
theorem cCommaG (g cap n : Nat) (xs : List Int) (w : World) (hn : n = xs.length) (hn60 : n ≤ 60) (hg : g < w.heap.size) (hok : ∀ x ∈ xs, -9999999999999 ≤ x ∧ x ≤ 9999999999999 ∧ (numB x).size ≤ 1073741824)
    (hc : ∀ (j : Nat) x, xs[j]? = some x → w.cell? ⟨g, 0 + j, none⟩ = some (.int .i64 x)) :
    Calls Tryd.prog 71 #[.slice (some ⟨g, 0, none⟩) n cap, .string ⟨#[44]⟩] w fun e w' => e = .returned (.string (comB (nums xs))) ∧ Below w.heap.size w w' := by
  have HN := Lib.hid hn
  have HK := Lib.hid hok
  have HC := Lib.hid hc
  clear hn hok hc
  go_enter Tryd.func71, Tryd.ntmps71
  go_wp2
  go_loopw [5, 6] (fun ou i wr => ∃ (k : Nat) (t : ByteArray), k ≤ n ∧ i = .int .i64 k ∧ ou = .string t ∧ t.size ≤ k * 1073741825 ∧ Hid (t = comB (nums (xs.take k))) ∧ Below w.heap.size w wr) (fun _ i _ => n - (intOf i).toNat)
  case atStart => exact ⟨0, ⟨#[]⟩, Nat.zero_le _, rfl, rfl, Nat.zero_le _, Lib.hid rfl, Below.refl _ _⟩
  case round =>
    obtain ⟨k, t, hk, rfl, rfl, ht, HT, hbw⟩ := hrel
    by_cases hlt : k < n
    · obtain ⟨x, hx⟩ : ∃ x, xs[k]? = some x := ⟨xs[k]'(by have := HN.out; omega), List.getElem?_eq_getElem _⟩
      have hcx := (hbw.cell hg).trans (HC.out k x hx)
      rw [Nat.zero_add] at hcx
      have hbd := HK.out x (List.mem_of_getElem? hx)
      have CN := Lib.hid (fun W => cNumberG x W hbd.1 hbd.2.1)
      have hz2 : (numB x).size ≤ 1073741824 := hbd.2.2
      have HX := Lib.hid hx
      clear hx hbd
      by_cases hk0 : 0 < k
      · go_wp2_with fail
        refine (CN.out _).mono ?_
        rintro e w1 ⟨rfl, hb1⟩
        have hbw1 := hbw.trans (hb1.mono hbw.size)
        go_wp2_with fail
        go_roundw
        case rel => exact ⟨k + 1, _, by omega, by go_num, rfl, (by rw [ByteArray.size_append, ByteArray.size_append]; have h1 : (⟨#[44]⟩ : ByteArray).size = 1 := rfl; omega), Lib.hid (by rw [com_step xs k x hk0 HX.out, HT.out]), hbw1⟩
        case measure => simp [intOf]; omega
      · have HZ := Lib.hid (show k = 0 by omega)
        go_wp2_with fail
        refine (CN.out _).mono ?_
        rintro e w1 ⟨rfl, hb1⟩
        have hbw1 := hbw.trans (hb1.mono hbw.size)
        go_wp2_with fail
        go_roundw
        case rel => exact ⟨k + 1, _, by omega, by go_num, rfl, (by rw [ByteArray.size_append]; omega), Lib.hid (by have h := HX.out; have e := HT.out; rw [HZ.out] at h e ⊢; rw [com_first xs x h, e]; rfl), hbw1⟩
        case measure => simp [intOf]; omega
    · obtain rfl : k = n := by omega
      go_wp2_with fail
      go_ret
      exact ⟨by rw [HT.out, List.take_of_length_le (by have := HN.out; omega)]; rfl, hbw⟩
end Go.Proofs.YtdbbolnmcbhflaaDoor
