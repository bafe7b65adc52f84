/-
  The contracts of spec.JoinPhrase and impl.JoinPhrase.
-/
import Derived.Test.YtippjomkbpiliaaDoorJoin
import Derived.Test.YtippjomkbpiliaaDoorAreWords
import Derived.Test.YtippjomkbpiliaaDoorShelf
namespace Go.Proofs.YtippjomkbpiliaaDoor
set_option linter.unusedVariables false
open Go.RowKit

def joinOk (xs : List ByteArray) : Bool := wordsB xs && decide (xs.length ≤ 8)
theorem words_mem (xs : List ByteArray) (h : wordsB xs = true) (x : ByteArray) (hx : x ∈ xs) : wordB x = true := by
  unfold wordsB at h; rw [List.all_eq_true] at h; exact h x hx

theorem cJP_impl_none (A : Option Addr) (cap : Nat) (w : World) :
    Calls Tryd.prog 37 #[.slice A 0 cap] w fun e w' => e = .returned (.tuple #[.string ByteArray.empty, .int .i64 1]) ∧ w = w' := by
  go_enter Tryd.func37, Tryd.ntmps37
  go_wp2_with fail
  go_ret2
  exact ⟨rfl, rfl⟩

def joinV (xs : List ByteArray) : Value := if joinOk xs then .tuple #[.string (joinB xs), .int .i64 0] else .tuple #[.string ByteArray.empty, .int .i64 1]
theorem joinV_yes (xs : List ByteArray) (h : joinOk xs = true) : joinV xs = .tuple #[.string (joinB xs), .int .i64 0] := by unfold joinV; rw [if_pos h]
theorem joinV_no (xs : List ByteArray) (h : joinOk xs = false) : joinV xs = .tuple #[.string ByteArray.empty, .int .i64 1] := by unfold joinV; rw [if_neg (by simp [h])]

set_option maxHeartbeats 1000000 in
theorem cJP_impl (g o cap n : Nat) (xs : List ByteArray) (w : World) (hn : n = xs.length) (hpos : 0 < n) (hbig : n ≤ 1048576) (hcap : n ≤ cap) (hsz : ∀ x ∈ xs, x.size ≤ maxLen) (hg : g < w.heap.size)
    (hc : ∀ (j : Nat) x, xs[j]? = some x → w.cell? ⟨g, o + j, none⟩ = some (.string x)) :
    Calls Tryd.prog 37 #[.slice (some ⟨g, o, none⟩) n cap] w fun e w' => e = .returned (joinV xs) ∧ Below w.heap.size w w' := by
  have HN := Lib.hid hn
  by_cases h8 : n ≤ 8
  · have HA := Lib.hid (cAreWords g o cap n xs w hn (by omega) hsz hc)
    cases hw : wordsB xs
    · rw [hw] at HA
      have HJ := Lib.hid (joinV_no xs (by unfold joinOk; rw [hw]; rfl))
      clear hw hn hsz hc
      go_enter Tryd.func37, Tryd.ntmps37
      go_wp2_with fail
      refine HA.out.mono ?_
      rintro e w' ⟨rfl, rfl⟩
      go_wp2_with fail
      go_ret2
      exact ⟨by rw [HJ.out]; rfl, Below.refl _ _⟩
    · rw [hw] at HA
      have HJ := Lib.hid (joinV_yes xs (by unfold joinOk; rw [hw, decide_eq_true (by omega)]; rfl))
      have hj := Tryd.strings_Join g o cap xs (sepB 32) w hc hg (by omega) (by omega) (join_small xs (fun x hx => (word_size x (words_mem xs hw x hx)).2) (by omega))
      rw [← hn] at hj
      have HS := Lib.hid hj
      clear hw hn hsz hc hj
      go_enter Tryd.func37, Tryd.ntmps37
      go_wp2_with fail
      refine HA.out.mono ?_
      rintro e w' ⟨rfl, rfl⟩
      go_wp2_with fail
      refine (show Calls Tryd.prog 31 #[.slice (some ⟨g, o, none⟩) n cap, .string (sepB 32)] _ _ from HS.out).mono ?_
      rintro e w2 ⟨rfl, hb⟩
      go_wp2_with fail
      go_ret2
      exact ⟨by rw [HJ.out]; rfl, hb⟩
  · have HJ := Lib.hid (joinV_no xs (by unfold joinOk; rw [decide_eq_false (by omega)]; simp))
    clear hn hsz hc
    go_enter Tryd.func37, Tryd.ntmps37
    go_wp2_with fail
    go_ret2
    exact ⟨by rw [HJ.out]; rfl, Below.refl _ _⟩
end Go.Proofs.YtippjomkbpiliaaDoor
