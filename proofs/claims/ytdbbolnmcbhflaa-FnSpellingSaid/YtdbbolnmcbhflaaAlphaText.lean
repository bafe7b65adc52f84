/-
  The contracts of spec.AlphabetText and impl.AlphabetText.
-/
import Derived.Test.YtdbbolnmcbhflaaTexts
import Derived.Test.YtdbbolnmcbhflaaShelf
namespace Go.Proofs.Ytdbbolnmcbhflaa
set_option linter.unusedVariables false
open Go.RowKit

def alphaTextV (xs : List ByteArray) : Value := if alphaB xs then .tuple #[.string (joinB xs), .int .i64 0] else .tuple #[.string ByteArray.empty, .int .i64 1]
theorem alphaTextV_yes (xs : List ByteArray) (h : alphaB xs = true) : alphaTextV xs = .tuple #[.string (joinB xs), .int .i64 0] := by unfold alphaTextV; rw [if_pos h]
theorem alphaTextV_no (xs : List ByteArray) (h : alphaB xs = false) : alphaTextV xs = .tuple #[.string ByteArray.empty, .int .i64 1] := by unfold alphaTextV; rw [if_neg (by simp [h])]
theorem joinA_small (xs : List ByteArray) (h : alphaB xs = true) : (Lib.join (xs.map (·.data.toList)) (sepB 32).data.toList).length ≤ 2600 := by
  have h1 := join_len (xs.map (·.data.toList)) (by
    intro y hy
    rw [List.mem_map] at hy
    obtain ⟨z, hz, rfl⟩ := hy
    have h2 := (alpha_size xs h z hz).2
    have h3 := size_list z
    omega)
  rw [List.length_map] at h1
  have h2 : (Lib.join (xs.map (·.data.toList)) (sepB 32).data.toList) = joinL (xs.map (·.data.toList)) := rfl
  have h3 := (alpha_len xs h).2
  rw [h2]; omega
theorem joinA_size (xs : List ByteArray) (h : alphaB xs = true) : (joinB xs).size ≤ 2600 := by
  have h1 := joinA_small xs h
  have h2 := size_list (joinB xs)
  rw [← h2]; simpa [joinB] using h1

end Go.Proofs.Ytdbbolnmcbhflaa
