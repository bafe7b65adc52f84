/-
  The contracts of spec.AlphabetText and impl.AlphabetText.
-/
import Derived.Test.YtnodnjaajaemcaaTexts
import Derived.Test.YtnodnjaajaemcaaShelf
namespace Go.Proofs.Ytnodnjaajaemcaa
set_option linter.unusedVariables false
open Go.RowKit

def alphaTextV (xs : List ByteArray) : Value := if alphaB xs then .tuple #[.string (joinB xs), .int .i64 0] else .tuple #[.string ByteArray.empty, .int .i64 1]
theorem alphaTextV_yes (xs : List ByteArray) (h : alphaB xs = true) : alphaTextV xs = .tuple #[.string (joinB xs), .int .i64 0] := by unfold alphaTextV; rw [if_pos h]
theorem alphaTextV_no (xs : List ByteArray) (h : alphaB xs = false) : alphaTextV xs = .tuple #[.string ByteArray.empty, .int .i64 1] := by unfold alphaTextV; rw [if_neg (by simp [h])]
theorem joinA_small (xs : List ByteArray) (h : alphaB xs = true) : (Lib.join (xs.map (·.data.toList)) (sepB 32).data.toList).length ≤ 2600 := by
  have h1 := join_len (xs.map (·.data.toList)) (by
    intro y hy
    rw [List.mem_map] at hy
    obtain ⟨z, hz, rfl⟩ := hy
    have h2 := (alpha_size xs h z hz).2
    have h3 := size_list z
    omega)
  rw [List.length_map] at h1
  have h2 : (Lib.join (xs.map (·.data.toList)) (sepB 32).data.toList) = joinL (xs.map (·.data.toList)) := rfl
  have h3 := (alpha_len xs h).2
  rw [h2]; omega
theorem joinA_size (xs : List ByteArray) (h : alphaB xs = true) : (joinB xs).size ≤ 2600 := by
  have h1 := joinA_small xs h
  have h2 := size_list (joinB xs)
  rw [← h2]; simpa [joinB] using h1

set_option maxHeartbeats 400000 in
theorem tAlphaText_spec (A : Option Addr) (n cap B : Nat) (xs : List ByteArray) (w : World) (hbig : n ≤ 1048576) (hs : ∀ x ∈ xs, x.size ≤ maxLen) (h : TextAt w B A n xs) :
    Calls Try.prog 5 #[.slice A n cap] w fun e w' => e = .returned (alphaTextV xs) ∧ w = w' := by
  have CI := Lib.hid (tIsAlpha_spec A n cap B xs w hbig hs h)
  cases ha : alphaB xs
  · rw [ha] at CI
    have HJ := Lib.hid (alphaTextV_no xs ha)
    clear ha h hs
    go_enter Try.func5, Try.ntmps5
    go_wp2_with (go_at_call 9; refine CI.out.mono ?_; rintro e w' ⟨rfl, rfl⟩)
    go_ret2
    exact ⟨by rw [HJ.out]; rfl, rfl⟩
  · rw [ha] at CI
    have HJ := Lib.hid (alphaTextV_yes xs ha)
    have hl := alpha_len xs ha
    obtain ⟨b, o, rfl, hb, hc⟩ := h.2 (by have := h.1; omega)
    have CW := Lib.hid (cWords b o cap n xs w h.1 (by have := h.1; omega) (fun x hx => by have := alpha_size xs ha x hx; omega) hc)
    clear ha h hs hl
    go_enter Try.func5, Try.ntmps5
    go_wp2_with (first
      | (go_at_call 9; refine CI.out.mono ?_; rintro e w' ⟨rfl, rfl⟩)
      | (go_at_call 10; refine CW.out.mono ?_; rintro e w' ⟨rfl, rfl⟩))
    go_ret2
    exact ⟨by rw [HJ.out]; rfl, rfl⟩

set_option maxHeartbeats 400000 in
theorem tAlphaText (A : Option Addr) (n cap : Nat) (xs : List ByteArray) (w : World) (hbig : n ≤ 1048576) (hcap : n ≤ cap) (hs : ∀ x ∈ xs, x.size ≤ maxLen) (h : TextAt w w.heap.size A n xs) :
    Calls Try.prog 7 #[.slice A n cap] w fun e w' => e = .returned (alphaTextV xs) ∧ Below w.heap.size w w' := by
  have CI := Lib.hid (tIsAlpha A n cap xs w hbig hs h)
  cases ha : alphaB xs
  · rw [ha] at CI
    have HJ := Lib.hid (alphaTextV_no xs ha)
    clear ha h hs
    go_enter Try.func7, Try.ntmps7
    go_wp2_with (go_at_call 11; refine CI.out.mono ?_; rintro e w1 ⟨rfl, hb1⟩)
    go_ret2
    exact ⟨by rw [HJ.out]; rfl, hb1⟩
  · rw [ha] at CI
    have HJ := Lib.hid (alphaTextV_yes xs ha)
    have hl := alpha_len xs ha
    obtain ⟨b, o, rfl, hb, hc⟩ := h.2 (by have := h.1; omega)
    have hj := fun W (hW : Below w.heap.size w W) => Try.strings_Join b o cap xs (sepB 32) W (fun j x hx => (hW.cell (by exact hb)).trans (hc j x hx)) (Nat.lt_of_lt_of_le hb hW.size) (by omega) (by have := h.1; omega) (by have := joinA_small xs ha; omega)
    rw [← h.1] at hj
    have HS := Lib.hid hj
    clear ha h hs hl hj hc
    go_enter Try.func7, Try.ntmps7
    go_wp2_with fail
    refine CI.out.mono ?_
    rintro e w1 ⟨rfl, hb1⟩
    go_wp2_with fail
    refine (show Calls Try.prog 12 #[.slice (some ⟨b, o, none⟩) n cap, .string (sepB 32)] _ _ from HS.out w1 hb1).mono ?_
    rintro e w2 ⟨rfl, hb2⟩
    go_wp2_with fail
    go_ret2
    exact ⟨by rw [HJ.out]; rfl, hb1.trans (hb2.mono hb1.size)⟩
end Go.Proofs.Ytnodnjaajaemcaa
