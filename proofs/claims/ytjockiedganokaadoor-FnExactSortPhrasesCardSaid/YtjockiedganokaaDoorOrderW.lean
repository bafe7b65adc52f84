/-
  The contract of impl.orderWithout: it makes the array of the letters that are ignored and the closures.
-/
import Derived.Test.YtjockiedganokaaDoorOrdK
import Derived.Test.YtjockiedganokaaDoorDpPlain
import Derived.Laws.EntriesVeiled
namespace Go.Proofs.YtjockiedganokaaDoor
set_option linter.unusedVariables false
open Go.RowKit Go.Shelf

def rowI (ig : List Int) (j : Nat) : List Value := (List.range 50).map fun (i : Nat) => Value.bool (ignB (ig.take j) (i : Int))
theorem rowI_len (ig : List Int) (j : Nat) : (rowI ig j).length = 50 := by simp [rowI]
theorem rowI_at (ig : List Int) (j i : Nat) (h : i < 50) : (rowI ig j)[i]? = some (.bool (ignB (ig.take j) (i : Int))) := by simp [rowI, h]
theorem rowI_zero (ig : List Int) : rowI ig 0 = List.replicate 50 (.bool false) := by
  apply List.ext_getElem?
  intro i
  rw [List.getElem?_replicate]
  by_cases h : i < 50
  · rw [if_pos h, rowI_at ig 0 i h, List.take_zero]
    have : ignB [] (i : Int) = false := by unfold ignB; exact decide_eq_false (by simp)
    rw [this]
  · rw [if_neg h, List.getElem?_eq_none (by rw [rowI_len]; omega)]
theorem rowI_step (ig : List Int) (j : Nat) (x : Nat) (h : ig[j]? = some (x : Int)) (hx : x < 40) : (rowI ig j).set (10 + x) (.bool true) = rowI ig (j + 1) := by
  have hl := (List.getElem?_eq_some_iff.1 h).1
  have he : ig[j] = (x : Int) := (List.getElem?_eq_some_iff.1 h).2
  apply List.ext_getElem?
  intro i
  rw [List.getElem?_set]
  by_cases h1 : 10 + x = i
  · rw [if_pos h1, if_pos (by rw [rowI_len]; omega), rowI_at ig (j + 1) i (by omega)]
    have : ignB (ig.take (j + 1)) (i : Int) = true := by
      unfold ignB
      rw [List.take_succ_eq_append_getElem hl, he]
      refine decide_eq_true ?_
      rw [List.mem_append]
      right
      rw [List.mem_singleton]; omega
    rw [this]
  · rw [if_neg h1]
    by_cases h2 : i < 50
    · rw [rowI_at ig j i h2, rowI_at ig (j + 1) i h2]
      have : ignB (ig.take (j + 1)) (i : Int) = ignB (ig.take j) (i : Int) := by
        unfold ignB
        rw [List.take_succ_eq_append_getElem hl, he, decide_eq_decide, List.mem_append, List.mem_singleton]
        constructor
        · rintro (h | h)
          · exact h
          · omega
        · exact .inl
      rw [this]
    · rw [List.getElem?_eq_none (by rw [rowI_len]; omega), List.getElem?_eq_none (by rw [rowI_len]; omega)]
/-- What impl.orderWithout answers: the order of keys. -/
def OrderPost (ig : List Int) (w : World) (e : Ending) (w' : World) : Prop :=
  ∃ gF gI : Nat, e = .returned (.func (.func 77) #[] #[.pointer (some ⟨gF, 0, none⟩)]) ∧ FnAt w' gF gI ∧ IgAt w' gI ig ∧ w.heap.size ≤ gI ∧ w.heap.size ≤ gF ∧ Below w.heap.size w w'

set_option maxHeartbeats 2000000 in
set_option maxRecDepth 100000 in
theorem cOrderW (A : Option Addr) (n c : Nat) (ig : List Int) (w : World) (hbig : n ≤ maxLen) (hig : ∀ x ∈ ig, 0 ≤ x ∧ x < 40) (h : NumAt w w.heap.size A n ig) :
    Calls Tryd.prog 43 #[.slice A n c] w (OrderPost ig w) := by
  unfold maxLen at hbig
  have HL := Lib.hid h.1
  have H := Lib.hid h
  have HIG := Lib.hid hig
  clear h hig
  go_enter Tryd.func43, Tryd.ntmps43
  go_wp2_with fail
  go_loopw [9] (fun i wr => ∃ j : Nat, j ≤ n ∧ i = .int .i64 j ∧ Hid (TabAt wr w.heap.size 103 (rowI ig j).toArray) ∧ Below w.heap.size w wr) (fun i _ => n - (intOf i).toNat)
  case atStart => exact ⟨0, Nat.zero_le _, rfl, Lib.hid (by rw [rowI_zero]; exact TabAt.new w _ _), (Below.refl _ _).alloc (Nat.le_refl _) _⟩
  case round =>
    obtain ⟨j, hj, rfl, HT, hbw⟩ := hrel
    by_cases hlt : j < n
    · obtain ⟨x, hx⟩ : ∃ x, ig[j]? = some x := ⟨ig[j]'(by have := HL.out; omega), List.getElem?_eq_getElem _⟩
      obtain ⟨b, o, rfl, hb, hcx0⟩ := H.out.row hx
      have hcx := (hbw.cell (by exact hb)).trans hcx0
      have hrx := HIG.out x (List.mem_of_getElem? hx)
      obtain ⟨q, rfl⟩ : ∃ q : Nat, x = (q : Int) := ⟨x.toNat, by omega⟩
      have hst := rowI_step ig j q hx (by omega)
      have hset : TabAt (wr.setCell ⟨w.heap.size, 10 + q, none⟩ (.bool true)) w.heap.size 103 (rowI ig (j + 1)).toArray := by
        have := HT.out.set (10 + q) (.bool true)
        rw [← hst]
        simpa using this
      have HSET := Lib.hid hset
      obtain ⟨v4, c4⟩ : ∃ v, wr.cell? ⟨w.heap.size, 10 + q, none⟩ = some v := HT.out.some (i := 10 + q) (by simp [rowI_len]; omega)
      have f4 := HT.out.frozen (10 + q)
      have hb2 : Below w.heap.size w (wr.setCell ⟨w.heap.size, 10 + q, none⟩ (.bool true)) := hbw.setCell (Nat.le_refl _) _
      have u0 : (0 : Int) ≤ (q : Int) := Int.natCast_nonneg _
      have u1 : (10 : Int) + (q : Int) < 50 := by omega
      have u2 : ((10 : Int) + (q : Int)).toNat = 10 + q := by omega
      clear hx hcx0 hst hset
      go_wp2_with fail
      go_roundw
      case rel => exact ⟨j + 1, by omega, by go_num, HSET, hb2⟩
      case measure => simp [intOf]; omega
    · have hall : ig.take j = ig := List.take_of_length_le (by have := HL.out; omega)
      have ht := HT.out
      have hlt0 := ht.lt
      go_wp2_with fail
      go_ret
      refine ⟨wr.heap.size, w.heap.size, rfl, ⟨by simp, by simp⟩, ?_, Nat.le_refl _, hbw.size, hbw.alloc hbw.size _⟩
      refine ⟨by simp; omega, fun i hi => ?_⟩
      rw [World.cell?_alloc_old _ _ _ (by show w.heap.size ≠ wr.heap.size; omega), ht.cell]
      have := rowI_at ig j i hi
      rw [hall] at this
      simpa using this
end Go.Proofs.YtjockiedganokaaDoor
