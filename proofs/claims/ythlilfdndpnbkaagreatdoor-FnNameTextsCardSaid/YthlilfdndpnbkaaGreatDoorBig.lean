/-
  The contract of the laws' big.
-/
import Derived.Test.YthlilfdndpnbkaaGreatDoorMg1
namespace Go.Proofs.YthlilfdndpnbkaaGreatDoor
set_option linter.unusedVariables false
open Go.RowKit

theorem cBig (A : Option Addr) (len cap : Nat) (w : World) (h : len ≤ maxLen) :
    Calls Tryz.prog 6 #[.slice A len cap] w fun e w' => e = .returned (.bool (decide (4096 < len))) ∧ w = w' := by
  unfold maxLen at h
  by_cases h1 : 4096 < len
  · have hd : decide ((4096 : Int) < (len : Int)) = true := decide_eq_true (by omega)
    have HD := Lib.hid (decide_eq_true h1)
    clear h1
    go_enter Tryz.func6, Tryz.ntmps6
    go_wp2
    go_ret
    exact ⟨ret_bool HD.out.symm, rfl⟩
  · have hd : decide ((4096 : Int) < (len : Int)) = false := decide_eq_false (by omega)
    have HD := Lib.hid (decide_eq_false h1)
    clear h1
    go_enter Tryz.func6, Tryz.ntmps6
    go_wp2
    go_ret
    exact ⟨ret_bool HD.out.symm, rfl⟩
end Go.Proofs.YthlilfdndpnbkaaGreatDoor
