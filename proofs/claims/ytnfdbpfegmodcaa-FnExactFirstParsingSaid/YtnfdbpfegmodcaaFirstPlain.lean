/-
  Plain facts on the first parsing of a text: no program is named here.
-/
import Derived.Test.YtnfdbpfegmodcaaWaysPlain
namespace Go.Proofs.Ytnfdbpfegmodcaa
set_option linter.unusedVariables false

/-- A rule fits the rest of length k, and what is left then has a parsing. -/
def goodP (rs : List ByteArray) (t : List UInt8) (k : Nat) (r : ByteArray) : Bool := fitR r (restL t k) && decide (0 < cntW rs t (k - r.size))
def idxL (p : ByteArray → Bool) : List ByteArray → Nat
  | [] => 0
  | r :: rs => if p r then 0 else idxL p rs + 1
theorem idxL_at {p : ByteArray → Bool} : ∀ (rs : List ByteArray) (k : Nat) (r : ByteArray), rs[k]? = some r → p r = true → (∀ j q, j < k → rs[j]? = some q → p q = false) → idxL p rs = k
  | [], k, r, h, _, _ => by simp at h
  | x :: rs, 0, r, h, hp, _ => by simp at h; subst h; unfold idxL; rw [if_pos hp]
  | x :: rs, k + 1, r, h, hp, hn => by
    have hx : p x = false := hn 0 x (by omega) (by simp)
    unfold idxL
    rw [if_neg (by simp [hx]), idxL_at rs k r (by simpa using h) hp (fun j q hj hq => hn (j + 1) q (by omega) (by simpa using hq))]
theorem idxL_hit {p : ByteArray → Bool} : ∀ (rs : List ByteArray), (∃ r, r ∈ rs ∧ p r = true) → ∃ r, rs[idxL p rs]? = some r ∧ p r = true
  | [], h => by obtain ⟨r, hr, _⟩ := h; simp at hr
  | x :: rs, h => by
    unfold idxL
    cases hx : p x
    · rw [if_neg (by simp)]
      obtain ⟨r, hr, hp⟩ := h
      rcases List.mem_cons.1 hr with rfl | hr
      · rw [hx] at hp; cases hp
      · obtain ⟨r', h1, h2⟩ := idxL_hit rs ⟨r, hr, hp⟩
        exact ⟨r', by simpa using h1, h2⟩
    · rw [if_pos rfl]; exact ⟨x, by simp, hx⟩
theorem sum_zero {f : Nat → Int} {t : List UInt8} : ∀ (rs : List ByteArray), (∀ r ∈ rs, fitR r t = true → f (t.length - r.size) = 0) → rs.foldl (addW f t) 0 = 0
  | [], _ => rfl
  | r :: rs, h => by
    have h1 : addW f t 0 r = 0 := by
      cases hf : fitR r t
      · exact addW_no hf
      · rw [addW_yes hf, h r (by simp) hf]; rfl
    rw [List.foldl_cons, h1]
    exact sum_zero rs (fun q hq => h q (by simp [hq]))
/-- Where there is a parsing, a rule begins it. -/
theorem good_some {rs : List ByteArray} {t : List UInt8} {k : Nat} (h0 : 0 < k) (hk : k ≤ t.length) (hc : 0 < cntW rs t k) : ∃ r, r ∈ rs ∧ goodP rs t k r = true := by
  apply Classical.byContradiction
  intro hn
  have hz : ∀ r ∈ rs, fitR r (restL t k) = true → cntW rs t ((restL t k).length - r.size) = 0 := by
    intro r hr hf
    have hb := cntW_bd rs t ((restL t k).length - r.size)
    apply Classical.byContradiction
    intro hne
    refine hn ⟨r, hr, ?_⟩
    unfold goodP
    rw [hf, Bool.true_and, decide_eq_true_eq]
    rw [restL_len hk] at hb hne
    omega
  have h1 := sum_zero (f := cntW rs t) rs hz
  have h2 := accW_end (rs := rs) (t := t) (k := k) (j := rs.length) (Nat.le_refl _) h0 hk
  unfold accW partW sumW at h2
  rw [List.take_length] at h2
  rw [h1] at h2
  omega
def idxP (rs : List ByteArray) (t : List UInt8) (k : Nat) : Nat := idxL (goodP rs t k) rs
theorem idxP_hit {rs : List ByteArray} {t : List UInt8} {k : Nat} (h0 : 0 < k) (hk : k ≤ t.length) (hc : 0 < cntW rs t k) : ∃ r, rs[idxP rs t k]? = some r ∧ goodP rs t k r = true := idxL_hit rs (good_some h0 hk hc)
theorem goodP_fit {rs : List ByteArray} {t : List UInt8} {k : Nat} {r : ByteArray} (hk : k ≤ t.length) (h : goodP rs t k r = true) : 0 < r.size ∧ r.size ≤ k ∧ 0 < cntW rs t (k - r.size) := by
  unfold goodP at h
  rw [Bool.and_eq_true, decide_eq_true_eq] at h
  have := fit_le h.1
  rw [restL_len hk] at this
  exact ⟨this.1, this.2.1, h.2⟩
/-- The first parsing of the rest of length k. -/
def firstP (rs : List ByteArray) (t : List UInt8) (k : Nat) : List Int :=
  if h : k = 0 then []
  else match rs[idxP rs t k]? with
    | none => []
    | some r => if h2 : 0 < r.size then (idxP rs t k : Int) :: firstP rs t (k - r.size) else []
termination_by k
decreasing_by omega
theorem firstP_zero (rs : List ByteArray) (t : List UInt8) : firstP rs t 0 = [] := by rw [firstP]; simp
theorem firstP_step {rs : List ByteArray} {t : List UInt8} {k i : Nat} {r : ByteArray} (h0 : 0 < k) (hk : k ≤ t.length) (hi : rs[i]? = some r) (hg : goodP rs t k r = true) (hn : ∀ j q, j < i → rs[j]? = some q → goodP rs t k q = false) :
    firstP rs t k = (i : Int) :: firstP rs t (k - r.size) := by
  have he : idxP rs t k = i := idxL_at rs i r hi hg hn
  have hs := (goodP_fit hk hg).1
  rw [firstP, dif_neg (by omega)]
  simp only [he, hi, dif_pos hs]
theorem firstP_len (rs : List ByteArray) (t : List UInt8) : ∀ (n k : Nat), k ≤ n → (firstP rs t k).length ≤ k
  | n, 0, _ => by rw [firstP_zero]; exact Nat.le_refl _
  | 0, k + 1, h => by omega
  | n + 1, k + 1, h => by
    rw [firstP, dif_neg (by omega)]
    split
    · exact Nat.zero_le _
    · split
      · rename_i r _ h2
        have := firstP_len rs t n (k + 1 - r.size) (by omega)
        rw [List.length_cons]
        omega
      · exact Nat.zero_le _
/-- What has been taken and what is left make the whole. -/
def FirstA (rs : List ByteArray) (t : List UInt8) (n k : Nat) (acc : List Int) : Prop := firstP rs t n = acc ++ firstP rs t k ∧ 0 < cntW rs t k
theorem FirstA.start {rs : List ByteArray} {t : List UInt8} {n : Nat} (h : 0 < cntW rs t n) : FirstA rs t n n [] := ⟨rfl, h⟩
theorem FirstA.step {rs : List ByteArray} {t : List UInt8} {n k i : Nat} {acc : List Int} {r : ByteArray} (h : FirstA rs t n k acc) (h0 : 0 < k) (hk : k ≤ t.length) (hi : rs[i]? = some r) (hg : goodP rs t k r = true) (hn : ∀ j q, j < i → rs[j]? = some q → goodP rs t k q = false) :
    FirstA rs t n (k - r.size) (acc ++ [(i : Int)]) := by
  refine ⟨?_, (goodP_fit hk hg).2.2⟩
  rw [h.1, firstP_step h0 hk hi hg hn, List.append_assoc]; rfl
theorem FirstA.done {rs : List ByteArray} {t : List UInt8} {n : Nat} {acc : List Int} (h : FirstA rs t n 0 acc) : firstP rs t n = acc := by
  rw [h.1, firstP_zero, List.append_nil]
end Go.Proofs.Ytnfdbpfegmodcaa
