/-
  The contracts of spec.l01Dec and spec.l01Number: the decimal text of a number.
-/
import Derived.Test.YthlilfdndpnbkaaGreatDoorSplit
import Derived.Test.YthlilfdndpnbkaaGreatDoorMg4
import Derived.Lib.ItoaNum
import Derived.Laws.IdiomStrings
import Derived.Deep.RegionWith
import Derived.IntWalk
namespace Go.Proofs.YthlilfdndpnbkaaGreatDoor
set_option linter.unusedVariables false
open Go.RowKit

def decB (n : Nat) : ByteArray := ⟨(Lib.decDigits n).toArray⟩
theorem decB_small (n : Nat) (h : n < 10) : decB n = ⟨#[UInt8.ofNat (48 + n)]⟩ := by unfold decB; rw [Lib.decDigits, dif_pos h]
theorem decB_big (n : Nat) (h : ¬ n < 10) : decB n = decB (n / 10) ++ ⟨#[UInt8.ofNat (48 + n % 10)]⟩ := by
  unfold decB; rw [Lib.decDigits, dif_neg h]
  apply ByteArray.ext; apply Array.toList_inj.1; simp
theorem decB_len (n : Nat) : (decB n).size ≤ n + 1 := by
  have h : (Lib.decDigits n).length ≤ n + 1 := by
    induction n using Nat.strongRecOn with
    | _ k ih =>
      by_cases h : k < 10
      · rw [Lib.decDigits, dif_pos h]; simp
      · rw [Lib.decDigits, dif_neg h]
        have := ih (k / 10) (by omega)
        simp; omega
  have h2 : (decB n).size = (Lib.decDigits n).length := by simp [decB, ← ByteArray.size_data]
  omega
theorem conv_at (W : World) (g d : Nat) (hd : d < 10) (h : W.cell? ⟨g, 0, none⟩ = some (.int .u8 (48 + (d : Int)))) : (convert 22 9 (.slice (some ⟨g, 0, none⟩) 1 1)).run Tryz.prog W = .ok (.string ⟨#[UInt8.ofNat (48 + d)]⟩) W := by
  refine run_convert_bytes_back (P := Tryz.prog) W 22 9 5 ⟨g, 0, none⟩ 1 [UInt8.ofNat (48 + d)] Tryz.underlying22 Tryz.underlying5 Tryz.underlying9 ?_
  intro i hi
  obtain rfl : i = 0 := by simpa using hi
  have h1 : ((UInt8.ofNat (48 + d)).toNat : Int) = 48 + (d : Int) := by
    rw [UInt8.toNat_ofNat_of_lt' (by simp [UInt8.size]; omega)]; omega
  have h3 : ((⟨g, 0, none⟩ : Addr).add 0) = ⟨g, 0, none⟩ := by simp [Addr.add]
  rw [h3, h]
  exact congrArg (fun x => some (Value.int .u8 x)) h1.symm

theorem use_fact {T Q : Prop} (h : T) (k : T → Q) : Q := k h
set_option maxHeartbeats 1000000 in
set_option maxRecDepth 100000 in
theorem cDec (N : Nat) : ∀ (n : Nat) (w : World), n ≤ N → n ≤ 99999999999999 →
    Calls Tryz.prog 94 #[.int .i64 n] w fun e w' => e = .returned (.string (decB n)) ∧ Below w.heap.size w w' := by
  induction N with
  | zero =>
    intro n w hn hb
    have hlt : n < 10 := by omega
    have HD := Lib.hid (decB_small n hlt)
    have hcv := conv_at (w.alloc (.cells #[.int .u8 (48 + (n : Int))] 5)) w.heap.size n hlt (new_one _ _ _)
    go_enter Tryz.func94, Tryz.ntmps94
    go_wp2_with fail
    go_ret
    exact ⟨by rw [HD.out]; simp, (Below.refl _ _).alloc (Nat.le_refl _) _⟩
  | succ N ih =>
    intro n w hn hb
    by_cases hlt : n < 10
    · have HD := Lib.hid (decB_small n hlt)
      have hcv := conv_at (w.alloc (.cells #[.int .u8 (48 + (n : Int))] 5)) w.heap.size n hlt (new_one _ _ _)
      go_enter Tryz.func94, Tryz.ntmps94
      go_wp2_with fail
      go_ret
      exact ⟨by rw [HD.out]; simp, (Below.refl _ _).alloc (Nat.le_refl _) _⟩
    · have HD : Hid (decB n = decB (n / 10) ++ ⟨#[48 + UInt8.ofNat (n % 10)]⟩) := Lib.hid (by rw [decB_big n hlt]; simp)
      have HI := Lib.hid (fun W => ih (n / 10) W (by omega) (by omega))
      have HL := Lib.hid (decB_len (n / 10))
      clear ih
      have hI : ∀ W, Calls Tryz.prog 94 #[.int .i64 ((n : Int) / 10)] W fun e w' => e = .returned (.string (decB (n / 10))) ∧ Below W.heap.size W w' := by
        rw [show ((n : Int) / 10) = ((n / 10 : Nat) : Int) from by omega]
        exact HI.out
      have HI2 := Lib.hid hI
      have hsz := HL.out
      have hcv : ∀ (W : World) (g : Nat), W.cell? ⟨g, 0, none⟩ = some (.int .u8 (48 + (n : Int) % 10)) → (convert 22 9 (.slice (some ⟨g, 0, none⟩) 1 1)).run Tryz.prog W = .ok (.string ⟨#[UInt8.ofNat (48 + n % 10)]⟩) W := by
        intro W g h
        exact conv_at W g (n % 10) (by omega) (by rw [h]; rfl)
      clear HI hI HL
      go_enter Tryz.func94, Tryz.ntmps94
      go_wp2_with fail
      have e1 : (0 : Int) ≤ (n : Int) := Int.natCast_nonneg _
      have s1 : IntKind.i64.wrap (48 + (n : Int) % 10) = 48 + (n : Int) % 10 := IntWalk.i64_in _ (by omega)
      have s2 : IntKind.u8.wrap (48 + (n : Int) % 10) = 48 + (n : Int) % 10 := IntWalk.u8_in _ (by omega)
      have s3 : (n : Int).tmod 10 = (n : Int) % 10 := Int.tmod_eq_emod_of_nonneg e1
      have s4 : (n : Int).tdiv 10 = (n : Int) / 10 := Int.tdiv_eq_ediv_of_nonneg e1
      have s5 : IntKind.i64.wrap ((n : Int) / 10) = (n : Int) / 10 := IntWalk.i64_in _ (by omega)
      have s6 : IntKind.i64.wrap ((n : Int) % 10) = (n : Int) % 10 := IntWalk.i64_in _ (by omega)
      go_region_with ((go_at_call 94; refine (HI2.out _).mono ?_; rintro e w1 ⟨rfl, hb1⟩; try (refine use_fact (T := w1.cell? ⟨w.heap.size, 0, none⟩ = some (.int .u8 (48 + (n : Int) % 10))) ?hk9 ?_; (case hk9 => (rw [hb1.cell]; all_goals (simp; done))); intro hk1)))
      all_goals
        go_wp2
        go_ret
        refine ⟨by rw [HD.out]; rfl, ?_⟩
        first
          | exact ((Below.refl _ _).drew.trans hb1).alloc hb1.size _
          | exact ((Below.refl _ _).alloc (Nat.le_refl _) _).drew.trans (hb1.mono (by simp))
          | exact ((Below.refl _ _).drew.alloc (Nat.le_refl _) _).trans (hb1.mono (by simp))

/-- The decimal text of a number, with a minus sign if it is negative. -/
def numB (n : Int) : ByteArray := ⟨(Lib.itoa n).toArray⟩
theorem numB_neg (n : Int) (h : n < 0) : numB n = ⟨#[45]⟩ ++ decB n.natAbs := by
  unfold numB Lib.itoa decB; rw [if_pos h]
  apply ByteArray.ext; apply Array.toList_inj.1; simp
theorem numB_pos (n : Int) (h : ¬ n < 0) : numB n = decB n.toNat := by unfold numB Lib.itoa decB; rw [if_neg h]
theorem numB_len (n : Int) : (numB n).size ≤ n.natAbs + 2 := by
  by_cases h : n < 0
  · rw [numB_neg n h, ByteArray.size_append]
    have := decB_len n.natAbs
    have h1 : (⟨#[45]⟩ : ByteArray).size = 1 := rfl
    omega
  · rw [numB_pos n h]
    have := decB_len n.toNat
    omega

theorem cNumber (n : Int) (w : World) (h1 : -1000000000000 ≤ n) (h2 : n ≤ 1000000000000) :
    Calls Tryz.prog 131 #[.int .i64 n] w fun e w' => e = .returned (.string (numB n)) ∧ Below w.heap.size w w' := by
  by_cases h : n < 0
  · have hc := cDec n.natAbs n.natAbs
    rw [show ((n.natAbs : Nat) : Int) = -n from by omega] at hc
    have HC := Lib.hid (fun W => hc W (Nat.le_refl _) (by omega))
    have HD := Lib.hid (numB_neg n h)
    have hsz := decB_len n.natAbs
    have hsz2 : (decB n.natAbs).size ≤ 1000000000001 := by omega
    clear hc hsz
    go_enter Tryz.func131, Tryz.ntmps131
    go_wp2_with fail
    refine (HC.out _).mono ?_
    rintro e w1 ⟨rfl, hb⟩
    go_wp2_with fail
    go_ret
    exact ⟨by rw [HD.out]; rfl, hb⟩
  · have hc := cDec n.toNat n.toNat
    rw [show ((n.toNat : Nat) : Int) = n from by omega] at hc
    have HC := Lib.hid (fun W => hc W (Nat.le_refl _) (by omega))
    have HD := Lib.hid (numB_pos n h)
    have h0 : 0 ≤ n := by omega
    clear hc
    go_enter Tryz.func131, Tryz.ntmps131
    go_wp2_with fail
    refine (HC.out _).mono ?_
    rintro e w1 ⟨rfl, hb⟩
    go_wp2_with fail
    go_ret
    exact ⟨by rw [HD.out]; rfl, hb⟩
end Go.Proofs.YthlilfdndpnbkaaGreatDoor
