/-
  The contracts of the laws' helpers on slices of texts: markText and markStringS.
-/
import Derived.Test.YthlajgkelggnkaaGreatDoorSplit
import Derived.Test.YthlajgkelggnkaaGreatDoorEqS
import Derived.Maps.AppendAt
import Derived.Lib.ItoaNum
import Derived.Deep.RegionHeld3
import Derived.Laws.IdiomStrings
namespace Go.Proofs.YthlajgkelggnkaaGreatDoor
set_option linter.unusedVariables false
open Go.RowKit

theorem below_dr0 {B : Nat} {a w : World} (h : Below B a w) (n : Nat) : Below B a (w.drewN n) := ⟨h.os, h.tape, h.output, h.size, h.block⟩
theorem below_grown {w w' : World} (h : Below w.heap.size w w') (row : Option Nat) : w.grownBy w' row := ⟨h.os, h.tape, h.output, h.size, fun k hk _ => h.block k hk⟩

def markB (k : Nat) : ByteArray := ⟨(109 :: Lib.decDigits k).toArray⟩
theorem dec_step (j : Nat) (l : List UInt8) (h : 0 < j) : Lib.decDigits j ++ l = (if j / 10 = 0 then [] else Lib.decDigits (j / 10)) ++ (48 + UInt8.ofNat (j % 10)) :: l := by
  by_cases h10 : j < 10
  · rw [Lib.decDigits, dif_pos h10, if_pos (by omega)]
    have : j % 10 = j := Nat.mod_eq_of_lt h10
    simp [this]
  · rw [Lib.decDigits, dif_neg h10, if_neg (by omega)]
    simp

theorem dec_len (k : Nat) : (Lib.decDigits k).length ≤ k + 1 := by
  induction k using Nat.strongRecOn with
  | _ k ih =>
    by_cases h : k < 10
    · rw [Lib.decDigits, dif_pos h]; simp
    · rw [Lib.decDigits, dif_neg h]
      have := ih (k / 10) (by omega)
      simp; omega
theorem conv_one (w : World) (j : Nat) : (convert 22 9 (.slice (some ⟨w.heap.size, 0, none⟩) 1 1)).run Tryz.prog (w.alloc (.cells #[.int .u8 (48 + (j : Int) % 10)] 5)) =
    .ok (.string ⟨#[UInt8.ofNat (48 + j % 10)]⟩) (w.alloc (.cells #[.int .u8 (48 + (j : Int) % 10)] 5)) := by
  refine run_convert_bytes_back (P := Tryz.prog) (w.alloc (.cells #[.int .u8 (48 + (j : Int) % 10)] 5)) 22 9 5 ⟨w.heap.size, 0, none⟩ 1 [UInt8.ofNat (48 + j % 10)] Tryz.underlying22 Tryz.underlying5 Tryz.underlying9 ?_
  intro i hi
  obtain rfl : i = 0 := by simpa using hi
  have h1 : ((UInt8.ofNat (48 + j % 10)).toNat : Int) = 48 + (j : Int) % 10 := by
    rw [UInt8.toNat_ofNat_of_lt' (by simp [UInt8.size]; omega)]; omega
  have h2 := new_one w (.int .u8 (48 + (j : Int) % 10)) 5
  have h3 : ((⟨w.heap.size, 0, none⟩ : Addr).add 0) = ⟨w.heap.size, 0, none⟩ := by simp [Addr.add]
  rw [h3, h2]
  exact congrArg (fun x => some (Value.int .u8 x)) h1.symm

/-- The first j cells marked, the rest as it was. -/
def markL (k j : Nat) (xs : List Value) : List Value := ((List.range j).map fun i => Value.string (markB (k + i))) ++ xs.drop j
theorem markL_zero (k : Nat) (xs : List Value) : markL k 0 xs = xs := by simp [markL]
theorem markL_step (k j : Nat) (xs : List Value) (hj : j < xs.length) : (markL k j xs).set j (.string (markB (k + j))) = markL k (j + 1) xs := by
  unfold markL
  rw [List.set_append_right _ _ (by simp), List.range_succ, List.map_append, List.append_assoc]
  congr 1
  simp only [List.length_map, List.length_range, Nat.sub_self]
  rw [List.drop_eq_getElem_cons hj, List.set_cons_zero]
  rfl
theorem markL_all (k : Nat) (xs : List Value) (n : Nat) (hn : n = xs.length) : markL k n xs = (List.range n).map fun i => Value.string (markB (k + i)) := by
  unfold markL; rw [List.drop_of_length_le (by omega), List.append_nil]
def marksV (k n : Nat) : List Value := (List.range n).map fun i => Value.string (markB (k + i))
theorem marksV_at (k n j : Nat) (h : j < n) : (marksV k n)[j]? = some (.string (markB (k + j))) := by simp [marksV, h]

end Go.Proofs.YthlajgkelggnkaaGreatDoor
