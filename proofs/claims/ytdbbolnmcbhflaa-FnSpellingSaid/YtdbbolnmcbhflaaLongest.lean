/-
  The contract of impl.alphabet.longestStart.
-/
import Derived.Test.YtdbbolnmcbhflaaAlphaI
import Derived.Test.YtdbbolnmcbhflaaSpellPlain
namespace Go.Proofs.Ytdbbolnmcbhflaa
set_option linter.unusedVariables false
open Go.RowKit

def longV (xs : List ByteArray) (s : ByteArray) : Value := if 0 < nextN xs s then .tuple #[.string (letterL xs s), .bool true] else .tuple #[.string ByteArray.empty, .bool false]
theorem longV_yes (xs : List ByteArray) (s : ByteArray) (h : 0 < nextN xs s) : longV xs s = .tuple #[.string (letterL xs s), .bool true] := by unfold longV; rw [if_pos h]
theorem longV_no (xs : List ByteArray) (s : ByteArray) (h : nextN xs s = 0) : longV xs s = .tuple #[.string ByteArray.empty, .bool false] := by unfold longV; rw [if_neg (by omega)]

set_option maxHeartbeats 400000 in
theorem cLongest (mb : Nat) (xs : List ByteArray) (s : ByteArray) (w : World) (hs : s.size ≤ maxLen) (hD : Dict w mb xs) :
    Calls Try.prog 63 #[.map (some mb), .string s] w fun e w' => e = .returned (longV xs s) ∧ w = w' := by
  have HD := Lib.hid (fun x hx => hD.look x hx)
  unfold maxLen at hs
  clear hD
  obtain ⟨L0, hL0⟩ : ∃ L0 : Nat, L0 = min 3 s.size := ⟨_, rfl⟩
  rcases Nat.lt_or_ge s.size 3 with hlt3 | hge3
  all_goals
    go_enter Try.func63, Try.ntmps63
    go_wp2
    go_loop [6] (fun i => ∃ k : Nat, k ≤ L0 ∧ i = .int .i64 k ∧ Hid (∀ M, k < M → M ≤ 3 → M ≤ s.size → s.extract 0 M ∉ xs)) (fun i => (intOf i).toNat)
    case atStart => exact ⟨L0, Nat.le_refl _, by rw [hL0]; congr 1; omega, Lib.hid (fun M h1 h2 h3 => by omega)⟩
    case round =>
      obtain ⟨k, hk, rfl, HA⟩ := hrel
      have hk3 : k ≤ 3 := by omega
      have hks : k ≤ s.size := by omega
      have HL0 := Lib.hid hL0
      clear hL0
      by_cases hlt : 0 < k
      · have hes : (s.extract 0 k).size = k := by rw [ext_size s 0 k hks]; omega
        have hl := HD.out (s.extract 0 k) (by unfold maxLen; omega)
        have HES := Lib.hid hes
        clear hes
        by_cases hm : s.extract 0 k ∈ xs
        · rw [decide_eq_true hm] at hl
          have hn := nextN_at xs s k hlt hk3 hks hm HA.out
          have HV := Lib.hid (show longV xs s = .tuple #[.string (s.extract 0 k), .bool true] from by rw [longV_yes xs s (by omega), letterL, hn])
          clear hm hn
          go_wp2
          go_ret2
          exact ⟨by rw [HV.out]; rfl, rfl⟩
        · rw [decide_eq_false hm] at hl
          have HM := Lib.hid hm
          clear hm
          go_wp2
          go_round
          case rel => exact ⟨k - 1, by omega, by go_num, Lib.hid (fun M h1 h2 h3 => by
            rcases Nat.lt_or_ge k M with h | h
            · exact HA.out M h h2 h3
            · obtain rfl : M = k := by omega
              exact HM.out)⟩
          case measure => simp [intOf]; omega
      · obtain rfl : k = 0 := by omega
        have HV := Lib.hid (longV_no xs s (nextN_none xs s HA.out))
        go_wp2
        go_ret2
        exact ⟨by rw [HV.out]; rfl, rfl⟩
end Go.Proofs.Ytdbbolnmcbhflaa
