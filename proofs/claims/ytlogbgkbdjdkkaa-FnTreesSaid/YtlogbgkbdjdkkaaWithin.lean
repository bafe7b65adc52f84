/-
  The contract of impl.areWithin: whether all numbers of a list lie within two bounds.
-/
import Derived.Test.YtlogbgkbdjdkkaaIsWord
import Derived.Test.YtlogbgkbdjdkkaaNumAt
namespace Go.Proofs.Ytlogbgkbdjdkkaa
set_option linter.unusedVariables false
open Go.RowKit

theorem NumAt.row {w : World} {B n : Nat} {A : Option Addr} {xs : List Int} (h : NumAt w B A n xs) {k : Nat} {x : Int} (hx : xs[k]? = some x) :
    ∃ b o, A = some ⟨b, o, none⟩ ∧ b < B ∧ w.cell? ⟨b, o + k, none⟩ = some (.int .i64 x) := by
  have := (List.getElem?_eq_some_iff.1 hx).1
  obtain ⟨b, o, h1, h2, h3⟩ := h.2 (by have := h.1; omega)
  exact ⟨b, o, h1, h2, h3 k x hx⟩

def allW (lo hi : Int) (xs : List Int) : Bool := xs.all fun x => decide (lo ≤ x) && decide (x ≤ hi)
theorem allW_zero (lo hi : Int) (xs : List Int) : allW lo hi (xs.take 0) = true := rfl
theorem allW_step {lo hi : Int} {xs : List Int} {k : Nat} {x : Int} (h : xs[k]? = some x) (ha : allW lo hi (xs.take k) = true) (h1 : lo ≤ x) (h2 : x ≤ hi) : allW lo hi (xs.take (k + 1)) = true := by
  have hk := (List.getElem?_eq_some_iff.1 h).1
  have hx : xs[k] = x := (List.getElem?_eq_some_iff.1 h).2
  rw [List.take_succ_eq_append_getElem hk, hx]; unfold allW at *; simp only [List.all_append, ha, List.all_cons, List.all_nil, decide_eq_true h1, decide_eq_true h2]; rfl
theorem allW_stop {lo hi : Int} {xs : List Int} {k : Nat} {x : Int} (h : xs[k]? = some x) (hb : x < lo ∨ hi < x) : allW lo hi xs = false := by
  unfold allW; rw [List.all_eq_false]
  refine ⟨x, List.mem_of_getElem? h, ?_⟩
  rw [Bool.and_eq_true, decide_eq_true_eq, decide_eq_true_eq]; omega
theorem allW_end {lo hi : Int} {xs : List Int} {k : Nat} (h : xs.length ≤ k) : allW lo hi (xs.take k) = allW lo hi xs := by rw [List.take_of_length_le h]
theorem allW_mem {lo hi : Int} {xs : List Int} (h : allW lo hi xs = true) {x : Int} (hx : x ∈ xs) : lo ≤ x ∧ x ≤ hi := by
  unfold allW at h; rw [List.all_eq_true] at h
  have := h x hx
  rw [Bool.and_eq_true, decide_eq_true_eq, decide_eq_true_eq] at this; exact this

set_option maxHeartbeats 400000 in
theorem cWithin (A : Option Addr) (n c B : Nat) (xs : List Int) (lo hi : Int) (w : World) (hbig : n ≤ maxLen) (h : NumAt w B A n xs) :
    Calls Try.prog 68 #[.slice A n c, .int .i64 lo, .int .i64 hi] w fun e w' => e = .returned (.bool (allW lo hi xs)) ∧ w = w' := by
  unfold maxLen at hbig
  have HL := Lib.hid h.1
  have H := Lib.hid h
  clear h
  go_enter Try.func68, Try.ntmps68
  go_wp2
  go_loop [11] (fun i => ∃ k : Nat, k ≤ n ∧ i = .int .i64 k ∧ Hid (allW lo hi (xs.take k) = true)) (fun i => n - (intOf i).toNat)
  case atStart => exact ⟨0, Nat.zero_le _, rfl, Lib.hid (allW_zero lo hi xs)⟩
  case round =>
    obtain ⟨k, hk, rfl, HA⟩ := hrel
    by_cases hlt : k < n
    · obtain ⟨x, hx⟩ : ∃ x, xs[k]? = some x := ⟨xs[k]'(by have := HL.out; omega), List.getElem?_eq_getElem _⟩
      obtain ⟨b, o, rfl, _, hcx⟩ := H.out.row hx
      have HX := Lib.hid hx
      clear hx
      by_cases hx0 : x < lo
      · go_wp2
        go_ret
        exact ⟨ret_bool (allW_stop HX.out (.inl hx0)).symm, rfl⟩
      by_cases hx1 : hi < x
      · go_wp2
        go_ret
        exact ⟨ret_bool (allW_stop HX.out (.inr hx1)).symm, rfl⟩
      go_wp2
      go_round
      case rel => exact ⟨k + 1, by omega, by go_num, Lib.hid (allW_step HX.out HA.out (by omega) (by omega))⟩
      case measure => simp [intOf]; omega
    · go_wp2
      go_ret
      exact ⟨ret_bool (by rw [← allW_end (k := k) (by have := HL.out; omega)]; exact HA.out.symm), rfl⟩
end Go.Proofs.Ytlogbgkbdjdkkaa
