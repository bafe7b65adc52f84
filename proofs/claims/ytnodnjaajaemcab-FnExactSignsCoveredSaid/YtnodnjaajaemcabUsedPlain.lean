/-
  Plain facts on romanising: no program is named here. f gives the place of a list of signs.
-/
import Derived.Test.YtnodnjaajaemcabRulePlain
namespace Go.Proofs.Ytnodnjaajaemcab
set_option linter.unusedVariables false

/-- The greatest length up to n at which f has what the list begins with. -/
def longU (f : List Int → Option Int) (xs : List Int) : Nat → Nat
  | 0 => 0
  | n + 1 => if (f (xs.take (n + 1))).isSome then n + 1 else longU f xs n
def longF (f : List Int → Option Int) (xs : List Int) : Nat := longU f xs (min 3 xs.length)
theorem longU_yes {f : List Int → Option Int} {xs : List Int} {n : Nat} (h : (f (xs.take (n + 1))).isSome = true) : longU f xs (n + 1) = n + 1 := by unfold longU; rw [if_pos h]
theorem longU_no {f : List Int → Option Int} {xs : List Int} {n : Nat} (h : (f (xs.take (n + 1))).isSome = false) : longU f xs (n + 1) = longU f xs n := by rw [longU, if_neg (by simp [h])]
theorem longU_le (f : List Int → Option Int) (xs : List Int) : ∀ n, longU f xs n ≤ n
  | 0 => Nat.le_refl _
  | n + 1 => by
    cases h : (f (xs.take (n + 1))).isSome
    · rw [longU_no h]; have := longU_le f xs n; omega
    · rw [longU_yes h]; exact Nat.le_refl _
theorem longU_some (f : List Int → Option Int) (xs : List Int) : ∀ n, 0 < longU f xs n → (f (xs.take (longU f xs n))).isSome = true
  | 0, h => by unfold longU at h; omega
  | n + 1, h => by
    cases h2 : (f (xs.take (n + 1))).isSome
    · rw [longU_no h2] at h ⊢; exact longU_some f xs n h
    · rw [longU_yes h2]; exact h2
theorem longF_le (f : List Int → Option Int) (xs : List Int) : longF f xs ≤ 3 ∧ longF f xs ≤ xs.length := by
  have := longU_le f xs (min 3 xs.length)
  unfold longF
  omega
theorem longF_some {f : List Int → Option Int} {xs : List Int} (h : 0 < longF f xs) : (f (xs.take (longF f xs))).isSome = true := longU_some f xs _ h
def longV (f : List Int → Option Int) (xs : List Int) : Int := (f (xs.take (longF f xs))).getD 0
/-- The places that are used from the beginning on. -/
def usedF (f : List Int → Option Int) (xs : List Int) : Option (List Int) :=
  if h : xs = [] then some []
  else if h2 : longF f xs = 0 then none
  else (usedF f (xs.drop (longF f xs))).map (fun r => longV f xs :: r)
termination_by xs.length
decreasing_by
  have h3 : 0 < xs.length := by cases xs with
    | nil => exact absurd rfl h
    | cons a l => simp
  simp
  omega
theorem usedF_nil (f : List Int → Option Int) : usedF f [] = some [] := by rw [usedF]; simp
theorem usedF_stop {f : List Int → Option Int} {xs : List Int} (h : xs ≠ []) (h2 : longF f xs = 0) : usedF f xs = none := by rw [usedF, dif_neg h, dif_pos h2]
theorem usedF_step {f : List Int → Option Int} {xs : List Int} (h : xs ≠ []) (h2 : 0 < longF f xs) : usedF f xs = (usedF f (xs.drop (longF f xs))).map (fun r => longV f xs :: r) := by
  rw [usedF, dif_neg h, dif_neg (by omega)]
/-- What is left and what has been taken make the whole. -/
def Along (f : List Int → Option Int) (xs rest : List Int) (acc : List Int) : Prop := usedF f xs = (usedF f rest).map (fun r => acc ++ r)
theorem Along.start (f : List Int → Option Int) (xs : List Int) : Along f xs xs [] := by
  unfold Along; cases usedF f xs <;> simp
theorem Along.step {f : List Int → Option Int} {xs rest acc : List Int} (h : Along f xs rest acc) (hr : rest ≠ []) (h2 : 0 < longF f rest) : Along f xs (rest.drop (longF f rest)) (acc ++ [longV f rest]) := by
  unfold Along at *
  rw [h, usedF_step hr h2]
  cases usedF f (rest.drop (longF f rest)) <;> simp
theorem Along.stop {f : List Int → Option Int} {xs rest acc : List Int} (h : Along f xs rest acc) (hr : rest ≠ []) (h2 : longF f rest = 0) : usedF f xs = none := by
  unfold Along at h; rw [h, usedF_stop hr h2]; rfl
theorem Along.done {f : List Int → Option Int} {xs acc : List Int} (h : Along f xs [] acc) : usedF f xs = some acc := by
  unfold Along at h; rw [h, usedF_nil]; simp
/-- The places that are used have a property that all places have. -/
theorem usedF_mem {f : List Int → Option Int} {P : Int → Prop} (hP : ∀ ys v, f ys = some v → P v) : ∀ (n : Nat) (xs : List Int), xs.length ≤ n → ∀ l, usedF f xs = some l → l.length ≤ xs.length ∧ ∀ v ∈ l, P v
  | n, [], _, l, h => by rw [usedF_nil] at h; cases h; exact ⟨by simp, by simp⟩
  | 0, x :: xs, hn, l, h => by simp at hn
  | n + 1, x :: xs, hn, l, h => by
    rcases Nat.eq_zero_or_pos (longF f (x :: xs)) with h0 | h0
    · rw [usedF_stop (by simp) h0] at h; cases h
    · rw [usedF_step (by simp) h0] at h
      have hlen : ((x :: xs).drop (longF f (x :: xs))).length ≤ n := by simp at *; omega
      cases hu : usedF f ((x :: xs).drop (longF f (x :: xs))) with
      | none => rw [hu] at h; cases h
      | some r =>
        rw [hu] at h
        simp at h
        subst h
        have ih := usedF_mem hP n _ hlen r hu
        have hd : ((x :: xs).drop (longF f (x :: xs))).length = (x :: xs).length - longF f (x :: xs) := by simp
        have hle := (longF_le f (x :: xs)).2
        refine ⟨by rw [List.length_cons]; omega, ?_⟩
        intro v hv
        rcases List.mem_cons.1 hv with rfl | hv
        · have hs := longF_some h0
          cases hf : f ((x :: xs).take (longF f (x :: xs))) with
          | none => rw [hf] at hs; cases hs
          | some u => unfold longV; rw [hf]; exact hP _ _ hf
        · exact ih.2 v hv
end Go.Proofs.Ytnodnjaajaemcab
