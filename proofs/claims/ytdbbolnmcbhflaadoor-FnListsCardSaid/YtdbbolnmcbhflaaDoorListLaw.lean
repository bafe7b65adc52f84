/-
  The contracts of ListText on a row, and how ListText and ReadList fit.
-/
import Derived.Test.YtdbbolnmcbhflaaDoorDrawList2
import Derived.Test.YtdbbolnmcbhflaaDoorListText
namespace Go.Proofs.YtdbbolnmcbhflaaDoor
set_option linter.unusedVariables false
open Go.RowKit

def ltV (xs : List Int) : Value := if xs = [] then .tuple #[.string dash, .int .i64 0] else listV xs
theorem num_small (n : Int) (h1 : -9999999999999 ≤ n) (h2 : n ≤ 9999999999999) : (numB n).size ≤ 14 := by
  have h := (sB_of n h1 h2).1
  unfold sB at h
  cases hn : isNeg (numB n)
  · rw [hn, if_neg (by simp)] at h
    unfold vB vOk at h
    simp only [Bool.and_eq_true, decide_eq_true_eq] at h
    omega
  · rw [hn, if_pos rfl] at h
    unfold vB vOk at h
    simp only [Bool.and_eq_true, decide_eq_true_eq] at h
    have hz : (restOf (numB n)).size = (numB n).size - 1 := by unfold restOf; rw [ByteArray.size_extract]; omega
    omega
theorem com_size (xs : List Int) (hok : okAll xs = true) (hl : xs.length ≤ 60) : (comB (nums xs)).size ≤ 1000 := by
  have h1 := com_len2 14 ((nums xs).map (·.data.toList)) (by
    intro y hy
    rw [List.mem_map] at hy
    obtain ⟨z, hz, rfl⟩ := hy
    unfold nums at hz
    rw [List.mem_map] at hz
    obtain ⟨v, hv, rfl⟩ := hz
    have h3 := size_list (numB v)
    have h4 := okAll_mem xs hok v hv
    have h5 := num_small v (by omega) (by omega)
    omega)
  have h2 : ((nums xs).map (·.data.toList)).length = xs.length := by simp [nums]
  rw [h2, ← comB_data, size_list] at h1
  have h3 : xs.length * (14 + 1) ≤ 60 * 15 := Nat.mul_le_mul hl (Nat.le_refl _)
  omega
theorem num_dash (v : Int) : numB v ≠ dash := by
  intro e
  have h := congrArg (fun b => b.data.toList) e
  simp only [numB_data] at h
  have hd : dash.data.toList = [45] := rfl
  rw [hd] at h
  by_cases hv : v < 0
  · rw [itoa_head v hv] at h
    injection h with _ h
    exact (dec_digits _).2.2 h
  · rw [itoa_pos v hv] at h
    have h1 := first_digit (dec_digits _).1 h
    have : (45 : UInt8).toNat = 45 := rfl
    omega
theorem com_dash (xs : List Int) (hp : 0 < xs.length) : comB (nums xs) ≠ dash := by
  intro e
  have h : piecesB 44 (comB (nums xs)) = nums xs := pieces_nums 44 noS_44 xs hp
  rw [e, pieces_one 44 dash (by intro c hc; have hd : dash.data.toList = [45] := rfl; rw [hd] at hc; simp at hc; subst hc; decide)] at h
  cases xs with
  | nil => simp at hp
  | cons v l =>
    injection h with h _
    exact num_dash v h.symm
theorem lt_form (xs : List Int) (hl : xs.length ≤ 61) : ∃ b c, ltV xs = .tuple #[.string b, .int .i64 c] ∧ b.size ≤ 1000 ∧ (c = 0 → RL b xs 0) ∧ (c = 0 → xs.length ≤ 60) := by
  unfold ltV
  by_cases hx : xs = []
  · rw [if_pos hx]
    subst hx
    exact ⟨dash, 0, rfl, by decide, fun _ => .inl ⟨rfl, rfl, rfl⟩, fun _ => Nat.zero_le _⟩
  · rw [if_neg hx]
    have hp : 0 < xs.length := List.length_pos_iff.2 hx
    cases hok : okAll xs
    · rw [listV_bad xs hok]
      exact ⟨_, 2, rfl, Nat.zero_le _, fun h => absurd h (by decide), fun h => absurd h (by decide)⟩
    · by_cases h60 : xs.length ≤ 60
      · rw [listV_ok xs hok h60]
        exact ⟨listB xs, 0, rfl, com_size xs hok h60, fun _ => .inr (.inl ⟨com_dash xs hp, hp, h60, hok, rfl, rfl⟩), fun _ => h60⟩
      · rw [listV_long xs hok (by omega)]
        exact ⟨_, 3, rfl, Nat.zero_le _, fun h => absurd h (by decide), fun h => absurd h (by decide)⟩
theorem lt_of {s : ByteArray} {ys : List Int} (h : RL s ys 0) : ltV ys = .tuple #[.string s, .int .i64 0] := by
  unfold ltV
  rcases h with ⟨rfl, rfl, _⟩ | ⟨_, hp, hl, hok, hs, _⟩ | ⟨_, _, _, h⟩
  · rw [if_pos rfl]
  · rw [if_neg (List.length_pos_iff.1 hp), listV_ok ys hok hl, hs]; rfl
  · cases h
theorem cLTr_spec (A : Option Addr) (n cap : Nat) (xs : List Int) (w : World) (hn : n ≤ 61) (hr : RowI w A n cap xs) :
    Calls Tryd.prog 24 #[.slice A n cap] w fun e w' => e = .returned (ltV xs) ∧ Below w.heap.size w w' := by
  have hl := hr.len
  rcases Nat.eq_zero_or_pos n with rfl | hp
  · obtain rfl : xs = [] := List.eq_nil_of_length_eq_zero hl
    exact (cLT_spec_none A cap w).mono fun e w' ⟨he, hw⟩ => ⟨he, hw ▸ Below.refl _ _⟩
  · obtain ⟨g, rfl, hg, hc⟩ := hr.cells hp
    have e : ltV xs = listV xs := by unfold ltV; rw [if_neg (by intro e; rw [e] at hl; simp at hl; omega)]
    rw [e]
    exact cLT_spec g cap n xs w hl.symm hp (by omega) hg (fun j x hx => by rw [Nat.zero_add]; exact hc j x hx)
theorem cLTr_impl (A : Option Addr) (n cap : Nat) (xs : List Int) (w : World) (hn : n ≤ 61) (hr : RowI w A n cap xs) (hlaid : Laid w) :
    Calls Tryd.prog 23 #[.slice A n cap] w fun e w' => e = .returned (ltV xs) ∧ Below w.heap.size w w' := by
  have hgl : 1 < w.heap.size := World.block_lt_of_cell? w _ (hlaid.1.cell pow_named 0 (by rw [Lib.pow10Tab_length]; omega))
  have hl := hr.len
  rcases Nat.eq_zero_or_pos n with rfl | hp
  · obtain rfl : xs = [] := List.eq_nil_of_length_eq_zero hl
    exact (cLT_impl_none A cap w).mono fun e w' ⟨he, hw⟩ => ⟨he, hw ▸ Below.refl _ _⟩
  · obtain ⟨g, rfl, hg, hc⟩ := hr.cells hp
    have e : ltV xs = listV xs := by unfold ltV; rw [if_neg (by intro e; rw [e] at hl; simp at hl; omega)]
    rw [e]
    exact cLT_impl g cap n xs w hl.symm hp (by omega) hg hgl (fun j x hx => by rw [Nat.zero_add]; exact hc j x hx) hlaid.1
end Go.Proofs.YtdbbolnmcbhflaaDoor
