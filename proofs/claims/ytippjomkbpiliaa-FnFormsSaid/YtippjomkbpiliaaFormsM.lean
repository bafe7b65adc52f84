/-
  Plain facts for the law of forms: a word is a form of each of its bases.
-/
import Derived.Test.YtippjomkbpiliaaCs
import Derived.Test.YtippjomkbpiliaaFmS
import Derived.Test.YtippjomkbpiliaaHasT
namespace Go.Proofs.Ytippjomkbpiliaa
set_option linter.unusedVariables false
open Go.RowKit

theorem suf_app (a b : ByteArray) : sufB (a ++ b) b = true := by
  unfold sufB Lib.hasSuffix
  rw [List.isSuffixOf_iff_suffix, ByteArray.data_append, Array.toList_append]
  exact List.suffix_append _ _
theorem cut_app (a b : ByteArray) : cutB (a ++ b) b = a := by
  have h := suf_app a b
  unfold sufB at h
  unfold cutB Lib.trimSuffix
  rw [if_pos h]
  apply ByteArray.ext
  apply Array.toList_inj.1
  rw [ByteArray.data_append, Array.toList_append]
  simp
theorem cut_back (s p : ByteArray) (h : sufB s p = true) : cutB s p ++ p = s := by
  unfold sufB at h
  unfold cutB Lib.trimSuffix
  rw [if_pos h]
  unfold Lib.hasSuffix at h
  rw [List.isSuffixOf_iff_suffix] at h
  obtain ⟨t, ht⟩ := h
  apply ByteArray.ext
  apply Array.toList_inj.1
  rw [ByteArray.data_append, Array.toList_append, ← ht]
  simp
/-- A base's form is the word. -/
theorem base_form {word x : ByteArray} {e : En} (hw : wordB word = true) (h : baseO word e = some x) : formO x e = some word ∧ wordB x = true := by
  have hx := form_size word (e.2.1, e.1, e.2.2) x h
  unfold baseO at h
  split at h
  · rename_i hc
    cases h
    unfold chB at hc
    rw [Bool.and_eq_true] at hc
    have h1 : chT (chT word e.2.1 e.1) e.1 e.2.1 = word := by
      unfold chT
      rw [cut_app]; exact cut_back _ _ hc.1
    refine ⟨?_, hx⟩
    have h2 := form_yes (chT word e.2.1 e.1) e (by unfold chT; exact suf_app _ _) (by rw [h1]; exact hw)
    rw [h1] at h2
    exact h2
  · cases h
theorem fmC_zero {xs : List En} {word : ByteArray} (h : fmC xs word = 0) : tabE xs = true ∧ wordB word = true := by
  cases hk : (tabE xs && wordB word)
  · rw [fmC_bad hk] at h; cases h
  · rw [Bool.and_eq_true] at hk; exact hk
theorem bases_back {xs : List En} {word x : ByteArray} (h : fmC xs word = 0) (hx : x ∈ basesZ xs word) : fmC xs x = 0 ∧ hasT word (formsZ xs x) = true ∧ x.size ≤ 16 := by
  obtain ⟨ht, hw⟩ := fmC_zero h
  rw [basesZ_ok (by rw [ht, hw]; rfl), (setT_is _).2, List.mem_filterMap] at hx
  obtain ⟨e, he, hb⟩ := hx
  have hf := base_form hw hb
  have hk : (tabE xs && wordB x) = true := by rw [ht, hf.2]; rfl
  refine ⟨fmC_ok hk, hasT_in ?_, (word_size x hf.2).2⟩
  rw [formsZ_ok hk, (setT_is _).2, List.mem_filterMap]
  exact ⟨e, he, hf.1⟩
theorem hasT_mem {s : ByteArray} {xs : List ByteArray} : hasT s xs = decide (s ∈ xs) := by
  by_cases h : s ∈ xs
  · rw [hasT_in h, decide_eq_true h]
  · rw [decide_eq_false h]
    unfold hasT
    rw [List.any_eq_false]
    intro y hy
    simp
    intro e; subst e; exact h hy
theorem cases_facts {xs : List En} {base form : ByteArray} (h : csC xs base form = 0) : fmC xs base = 0 ∧ hasT form (formsZ xs base) = decide (0 < (csZ xs base form).length) := by
  cases hk : okC xs base form
  · rw [csC_bad hk] at h; cases h
  · have hz := csZ_ok hk
    unfold okC at hk
    rw [Bool.and_eq_true, Bool.and_eq_true] at hk
    have hf : (tabE xs && wordB base) = true := by rw [hk.1, hk.2.1]; rfl
    refine ⟨fmC_ok hf, ?_⟩
    rw [hasT_mem, formsZ_ok hf, hz]
    apply decide_eq_decide.2
    rw [(setT_is _).2, List.mem_filterMap]
    constructor
    · rintro ⟨e, he, hb⟩
      have h1 : e.2.2 ∈ setI (caseL base form xs) := by
        rw [(setI_is _).2]
        unfold caseL
        rw [List.mem_map]
        exact ⟨e, List.mem_filter.2 ⟨he, by rw [hit_some hb]; simp⟩, rfl⟩
      exact List.length_pos_of_mem h1
    · intro hp
      obtain ⟨z, hz⟩ := List.exists_mem_of_length_pos hp
      rw [(setI_is _).2] at hz
      unfold caseL at hz
      rw [List.mem_map] at hz
      obtain ⟨e, he, _⟩ := hz
      rw [List.mem_filter] at he
      refine ⟨e, he.1, ?_⟩
      cases hb : formO base e with
      | none => rw [hit_none hb] at he; cases he.2
      | some t =>
        rw [hit_some hb] at he
        rw [of_decide_eq_true he.2]
end Go.Proofs.Ytippjomkbpiliaa
