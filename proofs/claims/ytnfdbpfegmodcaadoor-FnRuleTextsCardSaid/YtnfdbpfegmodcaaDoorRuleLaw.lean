/-
  How RuleText and ReadRule fit (for FnRuleTexts).
-/
import Derived.Test.YtnfdbpfegmodcaaDoorReadRule
import Derived.Test.YtnfdbpfegmodcaaDoorRuleText
namespace Go.Proofs.YtnfdbpfegmodcaaDoor
set_option linter.unusedVariables false
open Go.RowKit

theorem noS_61 : NoS 61 := noS_of (by decide) (by decide)
theorem jL_no {sp c : UInt8} (hc : c ≠ sp) : ∀ (l : List (List UInt8)), (∀ y ∈ l, c ∉ y) → c ∉ jL sp l
  | [], _ => by simp [jL, Lib.join, List.intercalate, List.intersperse]
  | [a], h => by rw [jL_one sp]; exact h a (by simp)
  | a :: b :: l, h => by
    rw [jL_cons sp, List.mem_append, List.mem_cons]
    rintro (h1 | h1 | h1)
    · exact h a (by simp) h1
    · exact hc h1
    · exact jL_no hc (b :: l) (fun y hy => h y (List.mem_cons_of_mem _ hy)) h1
theorem jB_no61 (xs : List Int) : ∀ c ∈ (jB 43 (nums xs)).data.toList, c ≠ 61 := by
  rintro c hc rfl
  rw [jB_data 43] at hc
  refine jL_no (sp := 43) (c := 61) (by decide) _ ?_ hc
  intro y hy h61
  rw [List.mem_map] at hy
  obtain ⟨z, hz, rfl⟩ := hy
  unfold nums at hz
  rw [List.mem_map] at hz
  obtain ⟨v, _, rfl⟩ := hz
  exact noS_61 v 61 h61 rfl
theorem cut_uniq {α : Type} {x : α} : ∀ {a b a' b' : List α}, a ++ x :: b = a' ++ x :: b' → (∀ c ∈ a, c ≠ x) → (∀ c ∈ a', c ≠ x) → a = a' ∧ b = b'
  | [], b, [], b', h, _, _ => by simp at h; exact ⟨rfl, h⟩
  | [], b, y :: a', b', h, _, h2 => by
    simp at h
    exact absurd h.1.symm (h2 y (by simp))
  | y :: a, b, [], b', h, h1, _ => by
    simp at h
    exact absurd h.1 (h1 y (by simp))
  | y :: a, b, y' :: a', b', h, h1, h2 => by
    simp only [List.cons_append, List.cons.injEq] at h
    obtain ⟨e1, e2⟩ := cut_uniq h.2 (fun c hc => h1 c (List.mem_cons_of_mem _ hc)) (fun c hc => h2 c (List.mem_cons_of_mem _ hc))
    exact ⟨by rw [h.1, e1], e2⟩
theorem text_data (r : Ru) : (textR r).data.toList = (jB 43 (nums r.1)).data.toList ++ 61 :: r.2.data.toList := by
  unfold textR
  simp only [ByteArray.data_append, Array.toList_append]
  simp
theorem text_cut (r : Ru) : cutF (textR r) = true ∧ cutA (textR r) = jB 43 (nums r.1) ∧ cutB (textR r) = r.2 := by
  have hd := text_data r
  cases hf : cutF (textR r)
  · exfalso
    exact cut_no hf 61 (by rw [hd]; simp) rfl
  · obtain ⟨h1, h2⟩ := cut_yes hf
    rw [hd] at h1
    obtain ⟨e1, e2⟩ := cut_uniq h1 (jB_no61 r.1) h2
    exact ⟨rfl, ByteArray.ext (Array.toList_inj.1 e1.symm), ByteArray.ext (Array.toList_inj.1 e2.symm)⟩
/-- The text of a rule is read as the rule. -/
theorem read_text {r : Ru} (h : ruleB r = true) {o : Option (List Int)} (ho : RNum 43 3 (cutA (textR r)) o) : readR (textR r) o = r ∧ readC (textR r) o = 0 := by
  obtain ⟨c1, c2, c3⟩ := text_cut r
  have hl := signs_len (rule_signs h)
  have h64 := in64_signs (rule_signs h)
  have hos : o = some r.1 := by
    rw [c2] at ho
    cases o with
    | none => exact absurd rfl (ho r.1 hl.1 hl.2 h64)
    | some vs =>
      obtain ⟨p1, p2, p3, p4⟩ := ho
      rw [jB_inj noS_43 p3 h64 p1 hl.1 p4.symm]
  subst hos
  have hg : GoodR (textR r) (some r.1) = true := by
    unfold GoodR
    rw [c1, c3]
    exact h
  unfold readR readC
  rw [hg, c3]
  exact ⟨rfl, rfl⟩
/-- What is read as a rule is the rule's text. -/
theorem text_read {s : ByteArray} {o : Option (List Int)} (hr : RNum 43 3 (cutA s) o) (hc : readC s o = 0) : ruleB (readR s o) = true ∧ textR (readR s o) = s := by
  have hg : GoodR s o = true := by
    cases h : GoodR s o
    · unfold readC at hc; rw [h] at hc; cases hc
    · rfl
  obtain ⟨vs, rfl, hb, _, _, _, _, ht⟩ := good_facts hg hr
  unfold readR
  rw [hg]
  exact ⟨hb, ht⟩
end Go.Proofs.YtnfdbpfegmodcaaDoor
