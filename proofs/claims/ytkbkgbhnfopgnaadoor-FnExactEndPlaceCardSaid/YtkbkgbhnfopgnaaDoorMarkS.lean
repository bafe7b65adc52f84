/-
  The contracts of the laws' helpers on slices of texts: markText and markStringS.
-/
import Derived.Test.YtkbkgbhnfopgnaaDoorSplit
import Derived.Test.YtkbkgbhnfopgnaaDoorMq3
import Derived.Maps.AppendAt
import Derived.Lib.ItoaNum
import Derived.Deep.RegionHeld3
import Derived.Laws.IdiomStrings
namespace Go.Proofs.YtkbkgbhnfopgnaaDoor
set_option linter.unusedVariables false
open Go.RowKit

theorem below_dr0 {B : Nat} {a w : World} (h : Below B a w) (n : Nat) : Below B a (w.drewN n) := ⟨h.os, h.tape, h.output, h.size, h.block⟩
theorem below_grown {w w' : World} (h : Below w.heap.size w w') (row : Option Nat) : w.grownBy w' row := ⟨h.os, h.tape, h.output, h.size, fun k hk _ => h.block k hk⟩

def markB (k : Nat) : ByteArray := ⟨(109 :: Lib.decDigits k).toArray⟩
theorem dec_step (j : Nat) (l : List UInt8) (h : 0 < j) : Lib.decDigits j ++ l = (if j / 10 = 0 then [] else Lib.decDigits (j / 10)) ++ (48 + UInt8.ofNat (j % 10)) :: l := by
  by_cases h10 : j < 10
  · rw [Lib.decDigits, dif_pos h10, if_pos (by omega)]
    have : j % 10 = j := Nat.mod_eq_of_lt h10
    simp [this]
  · rw [Lib.decDigits, dif_neg h10, if_neg (by omega)]
    simp

theorem dec_len (k : Nat) : (Lib.decDigits k).length ≤ k + 1 := by
  induction k using Nat.strongRecOn with
  | _ k ih =>
    by_cases h : k < 10
    · rw [Lib.decDigits, dif_pos h]; simp
    · rw [Lib.decDigits, dif_neg h]
      have := ih (k / 10) (by omega)
      simp; omega
theorem conv_one (w : World) (j : Nat) : (convert 100 9 (.slice (some ⟨w.heap.size, 0, none⟩) 1 1)).run Tryd.prog (w.alloc (.cells #[.int .u8 (48 + (j : Int) % 10)] 5)) =
    .ok (.string ⟨#[UInt8.ofNat (48 + j % 10)]⟩) (w.alloc (.cells #[.int .u8 (48 + (j : Int) % 10)] 5)) := by
  refine run_convert_bytes_back (P := Tryd.prog) (w.alloc (.cells #[.int .u8 (48 + (j : Int) % 10)] 5)) 100 9 5 ⟨w.heap.size, 0, none⟩ 1 [UInt8.ofNat (48 + j % 10)] Tryd.underlying100 Tryd.underlying5 Tryd.underlying9 ?_
  intro i hi
  obtain rfl : i = 0 := by simpa using hi
  have h1 : ((UInt8.ofNat (48 + j % 10)).toNat : Int) = 48 + (j : Int) % 10 := by
    rw [UInt8.toNat_ofNat_of_lt' (by simp [UInt8.size]; omega)]; omega
  have h2 := new_one w (.int .u8 (48 + (j : Int) % 10)) 5
  have h3 : ((⟨w.heap.size, 0, none⟩ : Addr).add 0) = ⟨w.heap.size, 0, none⟩ := by simp [Addr.add]
  rw [h3, h2]
  exact congrArg (fun x => some (Value.int .u8 x)) h1.symm

set_option maxHeartbeats 400000 in
set_option maxRecDepth 100000 in
theorem cMarkText (k : Nat) (w : World) (h1 : 1 ≤ k) (h2 : k ≤ 1099511627776) :
    Calls Tryd.prog 54 #[.int .i64 k] w fun e w' => e = .returned (.string (markB k)) ∧ Below w.heap.size w w' := by
  have hd : decide (k = 0) = false := decide_eq_false (by omega)
  go_enter Tryd.func54, Tryd.ntmps54
  go_wp2
  clear hd
  go_loopw [0, 3] (fun kk o wr => ∃ (j : Nat) (l : ByteArray), j ≤ 1099511627776 ∧ kk = .int .i64 j ∧ o = .string l ∧ Hid ((if j = 0 then [] else Lib.decDigits j) ++ l.data.toList = Lib.decDigits k) ∧ Below w.heap.size w wr) (fun kk _ _ => (intOf kk).toNat)
  case atStart => exact ⟨k, ByteArray.empty, h2, rfl, rfl, Lib.hid (by rw [if_neg (by omega)]; exact List.append_nil _), Below.refl _ _⟩
  case round =>
    obtain ⟨j, l, hj, rfl, rfl, HL, hbw⟩ := hrel
    have hsz : l.size ≤ 1099511627777 := by
      have h3 := congrArg List.length HL.out
      have h4 := dec_len k
      rw [List.length_append] at h3
      have h5 : l.data.toList.length = l.size := size_list l
      omega
    by_cases hlt : 0 < j
    · have hcv := conv_one wr j
      go_wp2
      go_roundw
      case rel => exact ⟨j / 10, _, by omega, by go_num, rfl, Lib.hid (by have h := HL.out; rw [if_neg (show ¬ j = 0 by omega), dec_step j _ hlt] at h; rw [← h]; simp), hbw.alloc hbw.size _⟩
      case measure => simp [intOf]; omega
    · go_wp2
      go_ret
      obtain rfl : j = 0 := by omega
      have hl : l.data.toList = Lib.decDigits k := HL.out
      refine ⟨?_, hbw⟩
      rw [show (⟨#[109]⟩ : ByteArray) ++ l = markB k from by
        unfold markB
        apply ByteArray.ext
        rw [← hl]
        simp]
      rfl

/-- The first j cells marked, the rest as it was. -/
def markL (k j : Nat) (xs : List Value) : List Value := ((List.range j).map fun i => Value.string (markB (k + i))) ++ xs.drop j
theorem markL_zero (k : Nat) (xs : List Value) : markL k 0 xs = xs := by simp [markL]
theorem markL_step (k j : Nat) (xs : List Value) (hj : j < xs.length) : (markL k j xs).set j (.string (markB (k + j))) = markL k (j + 1) xs := by
  unfold markL
  rw [List.set_append_right _ _ (by simp), List.range_succ, List.map_append, List.append_assoc]
  congr 1
  simp only [List.length_map, List.length_range, Nat.sub_self]
  rw [List.drop_eq_getElem_cons hj, List.set_cons_zero]
  rfl
theorem markL_all (k : Nat) (xs : List Value) (n : Nat) (hn : n = xs.length) : markL k n xs = (List.range n).map fun i => Value.string (markB (k + i)) := by
  unfold markL; rw [List.drop_of_length_le (by omega), List.append_nil]
def marksV (k n : Nat) : List Value := (List.range n).map fun i => Value.string (markB (k + i))
theorem marksV_at (k n j : Nat) (h : j < n) : (marksV k n)[j]? = some (.string (markB (k + j))) := by simp [marksV, h]

set_option maxHeartbeats 1000000 in
set_option maxRecDepth 100000 in
theorem cMarkS (base g cap n k : Nat) (xs : List Value) (w : World) (hk : 1 ≤ k) (hkn : k + n ≤ 1099511627776) (hg : g < w.heap.size)
    (hown : w.ownsRow base 9 1 (.slice (some ⟨g, 0, none⟩) n cap) n xs) :
    Calls Tryd.prog 25 #[.slice (some ⟨g, 0, none⟩) n cap, .int .i64 k] w fun e w' => e = .returned (.int .i64 ((k + n : Nat) : Int)) ∧
      w'.ownsRow base 9 1 (.slice (some ⟨g, 0, none⟩) n cap) n (marksV k n) ∧ w.grownBy w' (some g) := by
  have hlen : xs.length = n := by simpa using hown.1
  have HLEN := Lib.hid hlen
  clear hlen
  go_enter Tryd.func25, Tryd.ntmps25
  go_wp2
  go_loopw [1, 5] (fun kk i wr => ∃ j : Nat, j ≤ n ∧ i = .int .i64 j ∧ kk = .int .i64 ((k : Int) + j) ∧ wr.ownsRow base 9 1 (.slice (some ⟨g, 0, none⟩) n cap) n (markL k j xs) ∧ w.grownBy wr (some g)) (fun _ i _ => n - (intOf i).toNat)
  case atStart => exact ⟨0, Nat.zero_le _, rfl, by simp, by rw [markL_zero]; exact hown, World.grownBy.refl _ _⟩
  case round =>
    clear hown
    obtain ⟨j, hj, rfl, rfl, hown, hgr⟩ := hrel
    by_cases hlt : j < n
    · have hm := cMarkText (k + j) wr (by omega) (by omega)
      rw [show ((k + j : Nat) : Int) = (k : Int) + (j : Int) from by omega] at hm
      have HM := Lib.hid hm
      clear hm
      go_wp2_with fail
      refine HM.out.mono ?_
      rintro e w1 ⟨rfl, hb1⟩
      have hown1 := hown.kept (below_grown hb1 none) (by simp [Value.ownBlock])
      obtain ⟨v4, c4⟩ : ∃ v, w1.cell? ⟨g, j, none⟩ = some v := by
        have hl : j < (markL k j xs).length := by rw [hown1.1]; omega
        exact ⟨_, (hown1.cellAt j (by omega)).trans (List.getElem?_eq_getElem hl)⟩
      have f4 := hown1.frozenAt j
      have hst := hown1.stored j (.string (markB (k + j)))
      rw [markL_step k j xs (by have := HLEN.out; omega)] at hst
      have hgr1 := (hgr.trans (below_grown hb1 (some g))).trans hst.2
      have hst1 := hst.1
      clear hst hown1 hown hgr HM hb1
      go_wp2
      go_roundw
      case rel => exact ⟨j + 1, by omega, by go_num, by go_num, hst1, hgr1⟩
      case measure => simp [intOf]; omega
    · obtain rfl : j = n := by omega
      rw [markL_all k xs j HLEN.out.symm] at hown
      go_wp2
      go_ret
      exact ⟨ret_int (by omega), hown, hgr⟩

theorem cMarkS_none (A : Option Addr) (cap : Nat) (k : Int) (w : World) :
    Calls Tryd.prog 25 #[.slice A 0 cap, .int .i64 k] w fun e w' => e = .returned (.int .i64 k) ∧ w = w' := by
  go_enter Tryd.func25, Tryd.ntmps25
  go_wp2
  refine wp_loop_rounds 1 ?_
  rw [rounds_succ]
  go_wp2
  go_ret
  exact ⟨rfl, rfl⟩
end Go.Proofs.YtkbkgbhnfopgnaaDoor
