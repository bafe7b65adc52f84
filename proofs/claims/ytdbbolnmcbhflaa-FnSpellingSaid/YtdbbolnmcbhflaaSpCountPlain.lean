/-
  Plain facts on the number of ways to make a word of letters: counted from the front and from the end it is the same.
-/
import Derived.Test.YtdbbolnmcbhflaaSpellPlain
namespace Go.Proofs.Ytdbbolnmcbhflaa
set_option linter.unusedVariables false
open Go.RowKit

def gsum (f : Nat → Int) : Nat → Int
  | 0 => 0
  | m + 1 => gsum f m + f m
theorem gsum_congr {f g : Nat → Int} : ∀ {m : Nat}, (∀ i, i < m → f i = g i) → gsum f m = gsum g m
  | 0, _ => rfl
  | m + 1, h => by simp only [gsum]; rw [gsum_congr (fun i hi => h i (by omega)), h m (by omega)]
theorem gsum_add (f g : Nat → Int) : ∀ m, gsum (fun i => f i + g i) m = gsum f m + gsum g m
  | 0 => rfl
  | m + 1 => by simp only [gsum]; rw [gsum_add f g m]; omega
theorem gsum_zero : ∀ m, gsum (fun _ => 0) m = 0
  | 0 => rfl
  | m + 1 => by simp only [gsum]; rw [gsum_zero m]; rfl
theorem gsum_mul (c : Int) (f : Nat → Int) : ∀ m, gsum (fun i => c * f i) m = c * gsum f m
  | 0 => by simp [gsum]
  | m + 1 => by simp only [gsum]; rw [gsum_mul c f m, Int.mul_add]
theorem gsum_swap (a : Nat → Nat → Int) (N : Nat) : ∀ M, gsum (fun m => gsum (fun j => a m j) N) M = gsum (fun j => gsum (fun m => a m j) M) N
  | 0 => by simp only [gsum]; exact (gsum_zero N).symm
  | M + 1 => by
    simp only [gsum]
    rw [gsum_swap a N M, ← gsum_add]
theorem gsum_cut (f : Nat → Int) (k : Nat) : ∀ m, k ≤ m → (∀ i, k ≤ i → i < m → f i = 0) → gsum f m = gsum f k
  | 0, h, _ => by obtain rfl : k = 0 := by omega
                  rfl
  | m + 1, h, h0 => by
    by_cases e : k = m + 1
    · rw [e]
    · simp only [gsum]; rw [gsum_cut f k m (by omega) (fun i h1 h2 => h0 i h1 (by omega)), h0 m (by omega) (by omega)]; omega
/-- The two ways of counting agree. -/
theorem two_ways (n : Nat) (e : Nat → Nat → Int) (F B : Nat → Int) (he : ∀ i j, j ≤ i → e i j = 0) (hF0 : F 0 = 1) (hBn : B n = 1)
    (hF : ∀ k, 0 < k → k ≤ n → F k = gsum (fun i => e i k * F i) (n + 1)) (hB : ∀ k, k < n → B k = gsum (fun j => e k j * B j) (n + 1)) : F n = B 0 := by
  have h1 : gsum (fun m => gsum (fun j => F m * (e m j * B j)) (n + 1)) (n + 1) = gsum (fun j => gsum (fun m => F m * (e m j * B j)) (n + 1)) (n + 1) := gsum_swap (fun m j => F m * (e m j * B j)) (n + 1) (n + 1)
  have h2 : gsum (fun m => gsum (fun j => F m * (e m j * B j)) (n + 1)) (n + 1) = gsum (fun m => F m * B m) n := by
    have : ∀ m, m < n + 1 → gsum (fun j => F m * (e m j * B j)) (n + 1) = if m < n then F m * B m else 0 := by
      intro m hm
      rw [gsum_mul]
      by_cases h : m < n
      · rw [if_pos h, ← hB m h]
      · rw [if_neg h, show gsum (fun j => e m j * B j) (n + 1) = 0 from ?_, Int.mul_zero]
        rw [gsum_congr (g := fun _ => 0) (fun j hj => by rw [he m j (by omega)]; simp), gsum_zero]
    rw [gsum_congr this]
    simp only [gsum]
    rw [if_neg (by omega : ¬ n < n), gsum_congr (g := fun m => F m * B m) (fun i hi => by rw [if_pos hi])]; omega
  have h3 : gsum (fun j => gsum (fun m => F m * (e m j * B j)) (n + 1)) (n + 1) = gsum (fun m => F m * B m) (n + 1) - F 0 * B 0 := by
    have : ∀ j, j < n + 1 → gsum (fun m => F m * (e m j * B j)) (n + 1) = F j * B j + (if j = 0 then - (F 0 * B 0) else 0) := by
      intro j hj
      rw [gsum_congr (g := fun m => B j * (e m j * F m)) (fun m hm => by grind), gsum_mul]
      by_cases h : j = 0
      · subst h
        rw [if_pos rfl, gsum_congr (g := fun _ => 0) (fun m hm => by rw [he m 0 (by omega)]; simp), gsum_zero]; omega
      · rw [if_neg h, ← hF j (by omega) (by omega), Int.mul_comm]; omega
    rw [gsum_congr this, gsum_add]
    have h4 : ∀ k, gsum (fun j => if j = 0 then - (F 0 * B 0) else 0) (k + 1) = - (F 0 * B 0) := by
      intro k
      induction k with
      | zero => simp [gsum]
      | succ k ih => rw [gsum, ih]; simp
    rw [h4 n]; omega
  rw [h2] at h1
  rw [h3] at h1
  simp only [gsum] at h1
  rw [hF0, hBn] at h1
  omega

/-- A table's value from the values before it. -/
def fwdL (e : Nat → Nat → Int) : Nat → Nat → Int
  | 0 => fun _ => 0
  | k + 1 => fun j => if j = k then gsum (fun i => e i k * fwdL e k i) k + (if k = 0 then 1 else 0) else fwdL e k j
def fwd (e : Nat → Nat → Int) (k : Nat) : Int := fwdL e (k + 1) k
theorem fwdL_at (e : Nat → Nat → Int) : ∀ k j, j < k → fwdL e k j = fwd e j
  | 0, j, h => by omega
  | k + 1, j, h => by
    by_cases hj : j = k
    · subst hj; rfl
    · show (if j = k then _ else fwdL e k j) = _
      rw [if_neg hj]; exact fwdL_at e k j (by omega)
theorem fwd_eq (e : Nat → Nat → Int) (k : Nat) : fwd e k = gsum (fun i => e i k * fwd e i) k + (if k = 0 then 1 else 0) := by
  show (if k = k then _ else _) = _
  rw [if_pos rfl, gsum_congr (g := fun i => e i k * fwd e i) (fun i hi => by rw [fwdL_at e k i hi])]
theorem gsum_bd (e : Nat → Int) (f : Nat → Int) (he : ∀ i, e i = 0 ∨ e i = 1) : ∀ m, (∀ i, i < m → 0 ≤ f i ∧ f i ≤ 2 ^ i) → 0 ≤ gsum (fun i => e i * f i) m ∧ gsum (fun i => e i * f i) m ≤ 2 ^ m - 1
  | 0, _ => by simp [gsum]
  | m + 1, h => by
    have h1 := gsum_bd e f he m (fun i hi => h i (by omega))
    have h2 := h m (by omega)
    have h3 : (2 : Int) ^ (m + 1) = 2 * 2 ^ m := by rw [Int.pow_succ]; omega
    simp only [gsum]
    rcases he m with h0 | h0 <;> rw [h0] <;> omega
theorem fwd_bd (e : Nat → Nat → Int) (he : ∀ i j, e i j = 0 ∨ e i j = 1) (k : Nat) : 0 ≤ fwd e k ∧ fwd e k ≤ 2 ^ k := by
  induction k using Nat.strongRecOn with
  | _ k ih =>
    have h1 := gsum_bd (fun i => e i k) (fwd e) (fun i => he i k) k (fun i hi => ih i hi)
    rw [fwd_eq]
    by_cases h : k = 0
    · subst h; simp [gsum]
    · rw [if_neg h]; omega

theorem gsum_front (f : Nat → Int) : ∀ m, gsum f (m + 1) = f 0 + gsum (fun i => f (i + 1)) m
  | 0 => by simp [gsum]
  | m + 1 => by
    have h := gsum_front f m
    rw [gsum, h]; simp only [gsum]; omega
theorem gsum_rev (h : Nat → Int) : ∀ n, gsum (fun i => h (n - i)) (n + 1) = gsum h (n + 1)
  | 0 => rfl
  | n + 1 => by
    rw [gsum_front, gsum_congr (g := fun i => h (n - i)) (fun i hi => by rw [show n + 1 - (i + 1) = n - i by omega]), gsum_rev h n]
    simp only [gsum, Nat.sub_zero]; omega
theorem gsum_one (f : Nat → Int) (i0 : Nat) : ∀ m, gsum (fun i => if i = i0 then f i else 0) m = if i0 < m then f i0 else 0
  | 0 => by simp [gsum]
  | m + 1 => by
    simp only [gsum]; rw [gsum_one f i0 m]
    by_cases h1 : m = i0
    · subst h1; rw [if_neg (by omega), if_pos rfl, if_pos (by omega)]; omega
    · rw [if_neg h1]
      by_cases h2 : i0 < m
      · rw [if_pos h2, if_pos (by omega)]; omega
      · rw [if_neg h2, if_neg (by omega)]; omega

/-- Whether the characters from i to j are a letter. -/
def eI (xs : List ByteArray) (s : ByteArray) (i j : Nat) : Int := if s.extract i j ∈ xs then 1 else 0
theorem eI_or (xs : List ByteArray) (s : ByteArray) (i j : Nat) : eI xs s i j = 0 ∨ eI xs s i j = 1 := by unfold eI; split <;> simp
theorem eI_back (xs : List ByteArray) (s : ByteArray) (ha : goodB xs = true) (i j : Nat) (h : j ≤ i) : eI xs s i j = 0 := by
  unfold eI; rw [if_neg]
  intro hm
  have h1 := (letter_size _ (good_mem xs ha _ hm)).1
  rw [ByteArray.size_extract] at h1; omega
def ways (xs : List ByteArray) (s : ByteArray) (k : Nat) : Int := fwd (eI xs s) k
def back (xs : List ByteArray) (s : ByteArray) (d : Nat) : Int := fwd (fun i k => eI xs s (s.size - k) (s.size - i)) d
theorem ways_bd (xs : List ByteArray) (s : ByteArray) (k : Nat) : 0 ≤ ways xs s k ∧ ways xs s k ≤ 2 ^ k := fwd_bd _ (eI_or xs s) k
theorem back_bd (xs : List ByteArray) (s : ByteArray) (d : Nat) : 0 ≤ back xs s d ∧ back xs s d ≤ 2 ^ d := fwd_bd _ (fun _ _ => eI_or xs s _ _) d
theorem ways_back (xs : List ByteArray) (s : ByteArray) (ha : goodB xs = true) : ways xs s s.size = back xs s s.size := by
  refine (two_ways s.size (eI xs s) (ways xs s) (fun k => back xs s (s.size - k)) (fun i j h => eI_back xs s ha i j h) ?_ ?_ ?_ ?_).trans (by simp)
  · unfold ways; rw [fwd_eq]; simp [gsum]
  · show back xs s (s.size - s.size) = 1
    rw [Nat.sub_self]; unfold back; rw [fwd_eq]; simp [gsum]
  · intro k h0 hk
    unfold ways; rw [fwd_eq, if_neg (by omega), Int.add_zero]
    exact (gsum_cut _ k (s.size + 1) (by omega) (fun i h1 _ => by rw [eI_back xs s ha i k h1]; simp)).symm
  · intro k hk
    show back xs s (s.size - k) = _
    have e1 : back xs s (s.size - k) = gsum (fun i => eI xs s k (s.size - i) * back xs s (s.size - (s.size - i))) (s.size - k) := by
      unfold back; rw [fwd_eq, if_neg (by omega), Int.add_zero]
      exact gsum_congr (fun i hi => by rw [show s.size - (s.size - k) = k by omega, show s.size - (s.size - i) = i by omega])
    rw [e1, ← gsum_rev (fun j => eI xs s k j * back xs s (s.size - j)) s.size]
    exact (gsum_cut _ (s.size - k) (s.size + 1) (by omega) (fun i h1 _ => by rw [eI_back xs s ha k (s.size - i) (by omega)]; simp)).symm

/-- The sum in the place of the table that is being made, from the front. -/
def partF (xs : List ByteArray) (s : ByteArray) (k m : Nat) : Int := gsum (fun i => eI xs s i k * ways xs s i) m + (if k = 0 then 1 else 0)
theorem partF_zero (xs : List ByteArray) (s : ByteArray) (k : Nat) : partF xs s k 0 = if k = 0 then 1 else 0 := by unfold partF; rw [gsum]; omega
theorem partF_full (xs : List ByteArray) (s : ByteArray) (k : Nat) : partF xs s k k = ways xs s k := by unfold partF ways; rw [← fwd_eq]
theorem partF_hit (xs : List ByteArray) (s : ByteArray) (k m : Nat) (h : s.extract m k ∈ xs) : partF xs s k (m + 1) = partF xs s k m + ways xs s m := by
  unfold partF; simp only [gsum]; rw [show eI xs s m k = 1 from if_pos h]; omega
theorem partF_miss (xs : List ByteArray) (s : ByteArray) (k m : Nat) (h : s.extract m k ∉ xs) : partF xs s k (m + 1) = partF xs s k m := by
  unfold partF; simp only [gsum]; rw [show eI xs s m k = 0 from if_neg h]; omega
theorem pow_16 (k : Nat) (h : k ≤ 16) : (2 : Int) ^ k ≤ 65536 := by
  have : k = 0 ∨ k = 1 ∨ k = 2 ∨ k = 3 ∨ k = 4 ∨ k = 5 ∨ k = 6 ∨ k = 7 ∨ k = 8 ∨ k = 9 ∨ k = 10 ∨ k = 11 ∨ k = 12 ∨ k = 13 ∨ k = 14 ∨ k = 15 ∨ k = 16 := by omega
  rcases this with rfl | rfl | rfl | rfl | rfl | rfl | rfl | rfl | rfl | rfl | rfl | rfl | rfl | rfl | rfl | rfl | rfl <;> decide
theorem partF_bd (xs : List ByteArray) (s : ByteArray) (k m : Nat) (hm : m ≤ 16) : 0 ≤ partF xs s k m ∧ partF xs s k m ≤ 65537 := by
  have h1 := gsum_bd (fun i => eI xs s i k) (ways xs s) (fun i => eI_or xs s i k) m (fun i _ => ways_bd xs s i)
  have h2 := pow_16 m hm
  unfold partF
  split <;> omega
theorem ways_small (xs : List ByteArray) (s : ByteArray) (k : Nat) (hk : k ≤ 16) : 0 ≤ ways xs s k ∧ ways xs s k ≤ 65536 := by
  have h1 := ways_bd xs s k
  have h2 := pow_16 k hk
  omega
theorem back_small (xs : List ByteArray) (s : ByteArray) (k : Nat) (hk : k ≤ 16) : 0 ≤ back xs s k ∧ back xs s k ≤ 65536 := by
  have h1 := back_bd xs s k
  have h2 := pow_16 k hk
  omega

/-- The sum in the place of the table that is being made, from the end: the first k letters are done. -/
def partB (xs : List ByteArray) (s : ByteArray) (at_ k : Nat) : Int := gsum (fun i => eI (xs.take k) s at_ (s.size - i) * back xs s i) (s.size - at_)
def isAt (x s : ByteArray) (at_ : Nat) : Prop := at_ + x.size ≤ s.size ∧ s.extract at_ (at_ + x.size) = x
theorem partB_zero (xs : List ByteArray) (s : ByteArray) (at_ : Nat) : partB xs s at_ 0 = 0 := by
  unfold partB; rw [gsum_congr (g := fun _ => 0) (fun i _ => by rw [show eI (xs.take 0) s at_ (s.size - i) = 0 from if_neg (by simp)]; simp), gsum_zero]
theorem partB_full (xs : List ByteArray) (s : ByteArray) (at_ k : Nat) (hk : xs.length ≤ k) (h : at_ < s.size) : partB xs s at_ k = back xs s (s.size - at_) := by
  unfold partB
  rw [List.take_of_length_le hk]
  conv => rhs; unfold back; rw [fwd_eq, if_neg (by omega), Int.add_zero]
  exact gsum_congr (fun i hi => by rw [show s.size - (s.size - at_) = at_ by omega]; rfl)
theorem partB_bd (xs : List ByteArray) (s : ByteArray) (at_ k : Nat) (hs : s.size ≤ 16) : 0 ≤ partB xs s at_ k ∧ partB xs s at_ k ≤ 65536 := by
  have h1 := gsum_bd (fun i => eI (xs.take k) s at_ (s.size - i)) (back xs s) (fun i => eI_or _ s _ _) (s.size - at_) (fun i _ => back_bd xs s i)
  have h2 := pow_16 (s.size - at_) (by omega)
  unfold partB
  omega
theorem eI_step (xs : List ByteArray) (s : ByteArray) (k : Nat) (x : ByteArray) (h : xs[k]? = some x) (hn : x ∉ xs.take k) (i j : Nat) :
    eI (xs.take (k + 1)) s i j = eI (xs.take k) s i j + (if s.extract i j = x then 1 else 0) := by
  unfold eI
  rw [take_snocL h]
  by_cases h1 : s.extract i j = x
  · rw [if_pos (by simp [h1]), if_neg (by rw [h1]; exact hn), if_pos h1]; rfl
  · rw [if_neg h1]
    by_cases h2 : s.extract i j ∈ xs.take k
    · rw [if_pos (by simp [h2]), if_pos h2]; rfl
    · rw [if_neg (by rw [List.mem_append, List.mem_singleton]; rintro (h | h); exact h2 h; exact h1 h), if_neg h2]; rfl
theorem partB_step (xs : List ByteArray) (s : ByteArray) (at_ k : Nat) (x : ByteArray) (h : xs[k]? = some x) (hn : x ∉ xs.take k) :
    partB xs s at_ (k + 1) = partB xs s at_ k + gsum (fun i => (if s.extract at_ (s.size - i) = x then 1 else 0) * back xs s i) (s.size - at_) := by
  unfold partB
  rw [← gsum_add]
  exact gsum_congr (fun i hi => by rw [eI_step xs s k x h hn, Int.add_mul])
theorem partB_hit (xs : List ByteArray) (s : ByteArray) (at_ k : Nat) (x : ByteArray) (h : xs[k]? = some x) (hn : x ∉ xs.take k) (hx : 1 ≤ x.size) (hi : isAt x s at_) :
    partB xs s at_ (k + 1) = partB xs s at_ k + back xs s (s.size - (at_ + x.size)) := by
  rw [partB_step xs s at_ k x h hn]
  congr 1
  rw [gsum_congr (g := fun i => if i = s.size - (at_ + x.size) then back xs s i else 0), gsum_one, if_pos (by have := hi.1; omega)]
  intro i hlt
  by_cases e : i = s.size - (at_ + x.size)
  · have := hi.1
    rw [if_pos e, if_pos (by rw [show s.size - i = at_ + x.size by omega]; exact hi.2)]; omega
  · rw [if_neg e, if_neg]
    · omega
    · intro hh
      have h1 := congrArg ByteArray.size hh
      rw [ByteArray.size_extract] at h1
      have := hi.1
      omega
theorem partB_miss (xs : List ByteArray) (s : ByteArray) (at_ k : Nat) (x : ByteArray) (h : xs[k]? = some x) (hn : x ∉ xs.take k) (hx : 1 ≤ x.size) (hi : ¬ isAt x s at_) :
    partB xs s at_ (k + 1) = partB xs s at_ k := by
  rw [partB_step xs s at_ k x h hn, gsum_congr (g := fun _ => 0), gsum_zero, Int.add_zero]
  intro i hlt
  rw [if_neg]
  · omega
  · intro hh
    have h1 := congrArg ByteArray.size hh
    rw [ByteArray.size_extract] at h1
    have h2 : at_ + x.size = s.size - i := by omega
    exact hi ⟨by omega, by rw [h2]; exact hh⟩
end Go.Proofs.Ytdbbolnmcbhflaa
