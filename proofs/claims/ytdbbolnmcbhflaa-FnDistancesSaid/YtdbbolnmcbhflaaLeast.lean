/-
  The contract of impl.leastOf: the least of a number and of the numbers of a slice.
-/
import Derived.Test.YtdbbolnmcbhflaaLcsImpl
namespace Go.Proofs.Ytdbbolnmcbhflaa
set_option linter.unusedVariables false
open Go.RowKit

def leastL (f : Int) (xs : List Int) : Int := xs.foldl min f
theorem leastL_step (f : Int) (xs : List Int) (k : Nat) (x : Int) (h : xs[k]? = some x) : leastL f (xs.take (k + 1)) = min (leastL f (xs.take k)) x := by
  have hk : k < xs.length := (List.getElem?_eq_some_iff.1 h).1
  have hx : xs[k] = x := (List.getElem?_eq_some_iff.1 h).2
  rw [List.take_succ_eq_append_getElem hk]; simp [leastL, hx]

set_option maxHeartbeats 400000 in
theorem cLeast (b o c n : Nat) (f : Int) (xs : List Int) (w : World) (hn : n = xs.length) (hbig : n ≤ 9223372036854775807)
    (hc : ∀ (j : Nat) x, xs[j]? = some x → w.cell? ⟨b, o + j, none⟩ = some (.int .i64 x)) :
    Calls Try.prog 29 #[.int .i64 f, .slice (some ⟨b, o, none⟩) n c] w fun e w' => e = .returned (.int .i64 (leastL f xs)) ∧ w = w' := by
  have HN := Lib.hid hn
  clear hn
  have HC := Lib.hid hc
  clear hc
  go_enter Try.func29, Try.ntmps29
  go_wp2
  go_loop [5, 11] (fun l i => ∃ (k : Nat) (v : Int), k ≤ n ∧ i = .int .i64 k ∧ l = .int .i64 v ∧ Hid (v = leastL f (xs.take k))) (fun _ i => n - (intOf i).toNat)
  case atStart => exact ⟨0, f, Nat.zero_le _, rfl, rfl, Lib.hid rfl⟩
  case round =>
    obtain ⟨k, v, hk, rfl, rfl, HV⟩ := hrel
    by_cases hlt : k < n
    · obtain ⟨x, hx⟩ : ∃ x, xs[k]? = some x := ⟨xs[k]'(by have := HN.out; omega), List.getElem?_eq_getElem _⟩
      have hcx := HC.out k x hx
      have HS : Hid (leastL f (xs.take (k + 1)) = min v x) := Lib.hid (by rw [HV.out]; exact leastL_step f xs k x hx)
      clear hx
      rcases Int.lt_or_le x v with hm | hm
      · go_wp2
        go_round
        case rel => exact ⟨k + 1, x, by omega, by go_num, rfl, Lib.hid (by rw [HS.out]; omega)⟩
        case measure => simp [intOf]; omega
      · go_wp2
        go_round
        case rel => exact ⟨k + 1, v, by omega, by go_num, rfl, Lib.hid (by rw [HS.out]; omega)⟩
        case measure => simp [intOf]; omega
    · go_wp2
      go_ret
      exact ⟨ret_int (by rw [HV.out, List.take_of_length_le (by have := HN.out; omega)]), rfl⟩

theorem cLeast2 (b c : Nat) (f x y v : Int) (w : World) (hv : v = min f (min x y)) (h0 : w.cell? ⟨b, 0, none⟩ = some (.int .i64 x)) (h1 : w.cell? ⟨b, 1, none⟩ = some (.int .i64 y)) :
    Calls Try.prog 29 #[.int .i64 f, .slice (some ⟨b, 0, none⟩) 2 c] w fun e w' => e = .returned (.int .i64 v) ∧ w = w' := by
  refine (cLeast b 0 c 2 f [x, y] w rfl (by omega) ?_).mono fun e w' ⟨he, hw⟩ => ⟨?_, hw⟩
  · intro j z hz
    rw [Nat.zero_add]
    match j, hz with
    | 0, hz => obtain rfl : x = z := by simpa using hz
               exact h0
    | 1, hz => obtain rfl : y = z := by simpa using hz
               exact h1
  · rw [he]; simp only [leastL, List.foldl]; exact ret_int (by rw [hv]; omega)
end Go.Proofs.Ytdbbolnmcbhflaa
