/-
  Plain facts on the parsings of a text: no program is named here. A rule fits a text whose beginning is its text, if that is not empty.
-/
import Derived.Test.YtnfdbpfegmodcaaRulePlain
namespace Go.Proofs.Ytnfdbpfegmodcaa
set_option linter.unusedVariables false

def fitR (r : ByteArray) (t : List UInt8) : Bool := decide (0 < r.size) && (t.take r.size == r.data.toList)
theorem size_toL (r : ByteArray) : r.data.toList.length = r.size := by simp
theorem fit_le {r : ByteArray} {t : List UInt8} (h : fitR r t = true) : 0 < r.size ∧ r.size ≤ t.length ∧ t.take r.size = r.data.toList := by
  unfold fitR at h
  rw [Bool.and_eq_true, decide_eq_true_eq, beq_iff_eq] at h
  have := congrArg List.length h.2
  rw [List.length_take, size_toL] at this
  exact ⟨h.1, by omega, h.2⟩
theorem fit_empty {r : ByteArray} {t : List UInt8} (h : r.size = 0) : fitR r t = false := by unfold fitR; rw [decide_eq_false (by omega)]; rfl
theorem fit_long {r : ByteArray} {t : List UInt8} (h : t.length < r.size) : fitR r t = false := by
  cases hf : fitR r t
  · rfl
  · have := (fit_le hf).2.1; omega
theorem fit_is {r : ByteArray} {t : List UInt8} (h : 0 < r.size) : fitR r t = (t.take r.size == r.data.toList) := by unfold fitR; rw [decide_eq_true h, Bool.true_and]

def capW : Int := 1000000000001
/-- One rule more: the numbers of the rests are f, by length. -/
def addW (f : Nat → Int) (t : List UInt8) (a : Int) (r : ByteArray) : Int := if fitR r t then min capW (a + f (t.length - r.size)) else a
/-- The numbers of parsings of the rests of length up to n of a text t (as f says of the shorter ones). -/
def sumW (rs : List ByteArray) (f : Nat → Int) (t : List UInt8) : Int := rs.foldl (addW f t) 0
def wayU (rs : List ByteArray) : Nat → List UInt8 → Int
  | _, [] => 1
  | 0, _ :: _ => 0
  | n + 1, c :: t => sumW rs (fun k => wayU rs n ((c :: t).drop ((c :: t).length - k))) (c :: t)
/-- The number of parsings of a text, at most capW. -/
def wayN (rs : List ByteArray) (t : List UInt8) : Int := wayU rs t.length t
theorem wayN_nil (rs : List ByteArray) : wayN rs [] = 1 := rfl

theorem foldl_eq {α β : Type} (f g : α → β → α) (bs : List β) (h : ∀ a b, b ∈ bs → f a b = g a b) : ∀ a, bs.foldl f a = bs.foldl g a := by
  induction bs with
  | nil => intro a; rfl
  | cons b bs ih =>
    intro a
    rw [List.foldl_cons, List.foldl_cons, h a b (by simp)]
    exact ih (fun a b hb => h a b (by simp [hb])) _
theorem sumW_eq {rs : List ByteArray} {f g : Nat → Int} {t : List UInt8} (h : ∀ k, k < t.length → f k = g k) : sumW rs f t = sumW rs g t := by
  unfold sumW
  refine foldl_eq _ _ _ (fun a r _ => ?_) 0
  unfold addW
  cases hf : fitR r t
  · rfl
  · have := fit_le hf
    rw [h (t.length - r.size) (by omega)]
theorem wayU_more (rs : List ByteArray) : ∀ (n : Nat) (t : List UInt8), t.length ≤ n → wayU rs n t = wayN rs t
  | n, [], _ => by cases n <;> rfl
  | 0, c :: t, h => by simp at h
  | n + 1, c :: t, h => by
    unfold wayN
    show sumW rs _ (c :: t) = sumW rs _ (c :: t)
    refine sumW_eq fun k hk => ?_
    have hl : ((c :: t).drop ((c :: t).length - k)).length = k := by rw [List.length_drop]; omega
    rw [wayU_more rs n _ (by rw [hl]; simp at h hk; omega), wayU_more rs t.length _ (by rw [hl]; simp at hk; omega)]
theorem wayN_step (rs : List ByteArray) (t : List UInt8) (h : 0 < t.length) : wayN rs t = sumW rs (fun k => wayN rs (t.drop (t.length - k))) t := by
  obtain ⟨c, u, rfl⟩ : ∃ c u, t = c :: u := by
    cases t with
    | nil => simp at h
    | cons c u => exact ⟨c, u, rfl⟩
  unfold wayN
  show sumW rs _ (c :: u) = _
  refine sumW_eq fun k hk => ?_
  have hl : ((c :: u).drop ((c :: u).length - k)).length = k := by rw [List.length_drop]; omega
  rw [wayU_more rs u.length _ (by rw [hl]; simp at hk; omega)]
  rfl
theorem addW_no {f : Nat → Int} {t : List UInt8} {a : Int} {r : ByteArray} (h : fitR r t = false) : addW f t a r = a := by unfold addW; rw [h]; rfl
theorem addW_yes {f : Nat → Int} {t : List UInt8} {a : Int} {r : ByteArray} (h : fitR r t = true) : addW f t a r = min capW (a + f (t.length - r.size)) := by unfold addW; rw [h]; rfl
/-- The sum over the first k rules. -/
def partW (rs : List ByteArray) (f : Nat → Int) (t : List UInt8) (k : Nat) : Int := sumW (rs.take k) f t
theorem partW_zero (rs : List ByteArray) (f : Nat → Int) (t : List UInt8) : partW rs f t 0 = 0 := rfl
theorem partW_step {rs : List ByteArray} {f : Nat → Int} {t : List UInt8} {k : Nat} {r : ByteArray} (h : rs[k]? = some r) : partW rs f t (k + 1) = addW f t (partW rs f t k) r := by
  unfold partW sumW
  rw [takeK_snoc h, List.foldl_append]; rfl
theorem partW_end {rs : List ByteArray} {f : Nat → Int} {t : List UInt8} {k : Nat} (h : rs.length ≤ k) : partW rs f t k = sumW rs f t := by unfold partW; rw [List.take_of_length_le h]
theorem addW_bd {f : Nat → Int} {t : List UInt8} {a : Int} {r : ByteArray} (hf : ∀ k, 0 ≤ f k) (h : 0 ≤ a ∧ a ≤ capW) : 0 ≤ addW f t a r ∧ addW f t a r ≤ capW := by
  unfold addW
  have := hf (t.length - r.size)
  have : capW = 1000000000001 := rfl
  split
  · omega
  · exact h
theorem sumW_bd {f : Nat → Int} {t : List UInt8} (hf : ∀ k, 0 ≤ f k) : ∀ (rs : List ByteArray) (a : Int), 0 ≤ a ∧ a ≤ capW → 0 ≤ rs.foldl (addW f t) a ∧ rs.foldl (addW f t) a ≤ capW
  | [], a, h => h
  | r :: rs, a, h => by rw [List.foldl_cons]; exact sumW_bd hf rs _ (addW_bd hf h)
theorem wayU_bd (rs : List ByteArray) : ∀ (n : Nat) (t : List UInt8), 0 ≤ wayU rs n t ∧ wayU rs n t ≤ capW
  | n, [] => by cases n <;> exact ⟨by simp [wayU], by simp [wayU, capW]⟩
  | 0, c :: t => ⟨by simp [wayU], by simp [wayU, capW]⟩
  | n + 1, c :: t => sumW_bd (fun k => (wayU_bd rs n _).1) rs 0 ⟨by omega, by unfold capW; omega⟩
theorem wayN_bd (rs : List ByteArray) (t : List UInt8) : 0 ≤ wayN rs t ∧ wayN rs t ≤ 1000000000001 := wayU_bd rs _ t
theorem partW_bd (rs : List ByteArray) (t : List UInt8) (s : Nat → List UInt8) (k : Nat) : 0 ≤ partW rs (fun j => wayN rs (s j)) t k ∧ partW rs (fun j => wayN rs (s j)) t k ≤ 1000000000001 :=
  sumW_bd (fun j => (wayN_bd rs (s j)).1) _ 0 ⟨by omega, by unfold capW; omega⟩

/-- The rest of length k of a text. -/
def restL (t : List UInt8) (k : Nat) : List UInt8 := t.drop (t.length - k)
theorem restL_len {t : List UInt8} {k : Nat} (h : k ≤ t.length) : (restL t k).length = k := by unfold restL; rw [List.length_drop]; omega
theorem restL_all (t : List UInt8) : restL t t.length = t := by unfold restL; rw [Nat.sub_self]; rfl
theorem restL_zero (t : List UInt8) : restL t 0 = [] := by unfold restL; rw [Nat.sub_zero]; exact List.drop_of_length_le (Nat.le_refl _)
theorem restL_rest {t : List UInt8} {k j : Nat} (hk : k ≤ t.length) (hj : j ≤ k) : restL (restL t k) j = restL t j := by
  unfold restL
  rw [List.drop_drop, List.length_drop]
  congr 1
  omega
theorem restL_cut {t : List UInt8} {k j : Nat} (hk : k ≤ t.length) (hj : j ≤ k) : (restL t k).drop j = restL t (k - j) := by
  unfold restL
  rw [List.drop_drop]
  congr 1
  omega
/-- The number of parsings of the rest of length k. -/
def cntW (rs : List ByteArray) (t : List UInt8) (k : Nat) : Int := wayN rs (restL t k)
theorem cntW_bd (rs : List ByteArray) (t : List UInt8) (k : Nat) : 0 ≤ cntW rs t k ∧ cntW rs t k ≤ 1000000000001 := wayN_bd rs _
theorem cntW_zero (rs : List ByteArray) (t : List UInt8) : cntW rs t 0 = 1 := by unfold cntW; rw [restL_zero]; rfl
/-- The sum over the first j rules, for the rest of length k. -/
def accW (rs : List ByteArray) (t : List UInt8) (k j : Nat) : Int := partW rs (cntW rs t) (restL t k) j
theorem accW_zero (rs : List ByteArray) (t : List UInt8) (k : Nat) : accW rs t k 0 = 0 := rfl
theorem accW_bd (rs : List ByteArray) (t : List UInt8) (k j : Nat) : 0 ≤ accW rs t k j ∧ accW rs t k j ≤ 1000000000001 := partW_bd rs _ (restL t) j
theorem accW_no {rs : List ByteArray} {t : List UInt8} {k j : Nat} {r : ByteArray} (h : rs[j]? = some r) (hf : fitR r (restL t k) = false) : accW rs t k (j + 1) = accW rs t k j := by
  unfold accW; rw [partW_step h, addW_no hf]
theorem accW_yes {rs : List ByteArray} {t : List UInt8} {k j : Nat} {r : ByteArray} (h : rs[j]? = some r) (hk : k ≤ t.length) (hf : fitR r (restL t k) = true) : accW rs t k (j + 1) = min 1000000000001 (accW rs t k j + cntW rs t (k - r.size)) := by
  unfold accW; rw [partW_step h, addW_yes hf, restL_len hk]; rfl
theorem accW_end {rs : List ByteArray} {t : List UInt8} {k j : Nat} (h : rs.length ≤ j) (h0 : 0 < k) (hk : k ≤ t.length) : accW rs t k j = cntW rs t k := by
  unfold accW cntW
  rw [partW_end h, wayN_step _ _ (by rw [restL_len hk]; exact h0)]
  refine sumW_eq fun i hi => ?_
  rw [restL_len hk] at hi
  show wayN rs (restL t i) = wayN rs (restL (restL t k) i)
  rw [restL_rest hk (by omega)]
end Go.Proofs.Ytnfdbpfegmodcaa
