/-
  What reading a text as a rule gives: plain facts.
-/
import Derived.Test.YtnodnjaajaemcabDoorReadN
import Derived.Test.YtnodnjaajaemcabDoorRuleText
import Derived.Test.YtnodnjaajaemcabDoorNumbers
namespace Go.Proofs.YtnodnjaajaemcabDoor
set_option linter.unusedVariables false
open Go.RowKit

theorem sNum_all {ws : List ByteArray} (h : sAll ws = true) : nums (ws.map sN) = ws := by
  unfold nums
  rw [List.map_map]
  refine (List.map_congr_left (g := id) ?_).trans (List.map_id _)
  intro x hx
  unfold sAll at h
  rw [List.all_eq_true] at h
  exact sB_num (h x hx)
theorem sAll_nums {xs : List Int} (h : okAll xs = true) : sAll (nums xs) = true ∧ (nums xs).map sN = xs := by
  constructor
  · unfold sAll nums
    rw [List.all_eq_true]
    intro x hx
    rw [List.mem_map] at hx
    obtain ⟨v, hv, rfl⟩ := hx
    have hb := okAll_mem xs h v hv
    exact (sB_of v (by omega) (by omega)).1
  · unfold nums
    rw [List.map_map]
    refine (List.map_congr_left (g := id) ?_).trans (List.map_id _)
    intro v hv
    have hb := okAll_mem xs h v hv
    exact (sB_of v (by omega) (by omega)).2

theorem nums_inj {xs ys : List Int} (h1 : In64 xs) (h2 : In64 ys) (h : nums xs = nums ys) : xs = ys := by
  have e1 := read_nums2 h1
  have e2 := read_nums2 h2
  rw [h, e2] at e1
  exact (somes_inj e1).symm
theorem in64_signs {m : Nat} {xs : List Int} (h : signsB m xs = true) : In64 xs := fun x hx => by have := signs_all h x hx; omega
theorem jB_inj {sp : UInt8} (hsp : NoS sp) {xs ys : List Int} (h1 : In64 xs) (h2 : In64 ys) (p1 : 0 < xs.length) (p2 : 0 < ys.length) (h : jB sp (nums xs) = jB sp (nums ys)) : xs = ys := by
  have e1 := pieces_nums sp hsp xs p1
  have e2 := pieces_nums sp hsp ys p2
  rw [h, e2] at e1
  exact (nums_inj h1 h2 e1.symm)
/-- The text before the first '=', the text behind it, and whether there is one. -/
def cutA (s : ByteArray) : ByteArray := ⟨(Lib.cut s.data.toList [61]).1.toArray⟩
def cutB (s : ByteArray) : ByteArray := ⟨(Lib.cut s.data.toList [61]).2.1.toArray⟩
def cutF (s : ByteArray) : Bool := (Lib.cut s.data.toList [61]).2.2
theorem occ_no {l : List UInt8} {j : Nat} (h : Lib.occAt l [61] j = false) : l[j]? ≠ some 61 := by
  rw [occ_one] at h; exact of_decide_eq_false h
theorem cut_yes {s : ByteArray} (h : cutF s = true) : s.data.toList = (cutA s).data.toList ++ 61 :: (cutB s).data.toList ∧ ∀ c ∈ (cutA s).data.toList, c ≠ 61 := by
  unfold cutF at h
  unfold cutA cutB
  rcases Lib.index_spec s.data.toList [61] with ⟨h0, _⟩ | ⟨i, h0, hi, ho, hno⟩
  · unfold Lib.cut at h; rw [h0, if_neg (by omega)] at h; cases h
  · have e : Lib.cut s.data.toList [61] = (s.data.toList.take i, s.data.toList.drop (i + 1), true) := by
      unfold Lib.cut
      rw [h0, if_pos (by omega)]
      simp
    rw [e]
    rw [occ_one] at ho
    have h1 := of_decide_eq_true ho
    have hil := (List.getElem?_eq_some_iff.1 h1).1
    have hie := (List.getElem?_eq_some_iff.1 h1).2
    refine ⟨?_, ?_⟩
    · have h2 := (List.take_append_drop i s.data.toList).symm
      rw [List.drop_eq_getElem_cons hil, hie] at h2
      exact h2
    · intro c hc e0
      rw [e0] at hc
      obtain ⟨j, hj, he⟩ := List.mem_iff_getElem.1 hc
      have hj1 : j < (s.data.toList.take i).length := hj
      rw [List.length_take] at hj1
      have h3 : (s.data.toList.take i)[j]? = some 61 := by rw [List.getElem?_eq_getElem hj]; exact congrArg some he
      rw [List.getElem?_take, if_pos (by omega)] at h3
      exact occ_no (hno j (by omega)) h3
theorem cut_no {s : ByteArray} (h : cutF s = false) : ∀ c ∈ s.data.toList, c ≠ 61 := by
  unfold cutF at h
  rcases Lib.index_spec s.data.toList [61] with ⟨h0, hno⟩ | ⟨i, h0, hi, ho, hno⟩
  · intro c hc e0
    rw [e0] at hc
    obtain ⟨j, hj, he⟩ := List.mem_iff_getElem.1 hc
    exact occ_no (hno j (by omega)) (by rw [List.getElem?_eq_getElem hj, he])
  · have e : Lib.cut s.data.toList [61] = (s.data.toList.take i, s.data.toList.drop (i + 1), true) := by
      unfold Lib.cut
      rw [h0, if_pos (by omega)]
      simp
    rw [e] at h; cases h
/-- The rule that s is the text of. -/
def GoodR (s : ByteArray) (o : Option (List Int)) : Bool := cutF s && (match o with | some vs => ruleB (vs, cutB s) | none => false)
def readR (s : ByteArray) (o : Option (List Int)) : Ru := if GoodR s o then (o.getD [], cutB s) else ([], ByteArray.empty)
def readC (s : ByteArray) (o : Option (List Int)) : Int := if GoodR s o then 0 else 6
theorem good_form {s : ByteArray} {o : Option (List Int)} (h : GoodR s o = true) : cutF s = true ∧ ∃ vs, o = some vs ∧ ruleB (vs, cutB s) = true := by
  unfold GoodR at h
  rw [Bool.and_eq_true] at h
  cases o with
  | none => cases h.2
  | some vs => exact ⟨h.1, vs, rfl, h.2⟩
theorem low_no {s : ByteArray} (h : lowAll s.data.toList = true) : ∀ c ∈ s.data.toList, c ≠ 61 := by
  unfold lowAll at h
  rw [List.all_eq_true] at h
  rintro c hc rfl
  have := h _ hc
  revert this
  decide
theorem pieces_two {s : ByteArray} (hf : cutF s = true) (hb : ∀ c ∈ (cutB s).data.toList, c ≠ 61) : piecesB 61 s = [cutA s, cutB s] := by
  obtain ⟨h1, h2⟩ := cut_yes hf
  rw [pieces_cons 61 (cutA s) (cutB s) s h2 h1, pieces_one 61 (cutB s) hb]
theorem pieces_len2 {s : ByteArray} (h : (piecesB 61 s).length = 2) : cutF s = true ∧ piecesB 61 s = [cutA s, cutB s] := by
  cases hf : cutF s
  · rw [pieces_one 61 s (cut_no hf)] at h; simp at h
  · refine ⟨rfl, ?_⟩
    obtain ⟨h1, h2⟩ := cut_yes hf
    have h3 := pieces_cons 61 (cutA s) (cutB s) s h2 h1
    rw [h3] at h
    rw [h3]
    cases hg : cutF (cutB s)
    · rw [pieces_one 61 (cutB s) (cut_no hg)]
    · exfalso
      obtain ⟨h4, h5⟩ := cut_yes hg
      rw [pieces_cons 61 (cutA (cutB s)) (cutB (cutB s)) (cutB s) h5 h4] at h
      have := pieces_pos 61 (cutB (cutB s))
      rw [List.length_cons, List.length_cons] at h
      omega
/-- Where s is a rule's text. -/
theorem good_facts {s : ByteArray} {o : Option (List Int)} (h : GoodR s o = true) (hr : RNum 43 3 (cutA s) o) : ∃ vs, o = some vs ∧ ruleB (vs, cutB s) = true ∧ piecesB 61 s = [cutA s, cutB s] ∧ piecesB 43 (cutA s) = nums vs ∧ sAll (nums vs) = true ∧ (nums vs).map sN = vs ∧ textR (vs, cutB s) = s := by
  obtain ⟨hf, vs, rfl, hb⟩ := good_form h
  obtain ⟨a, b, c, d⟩ := hr
  have hok := ok_signs (rule_signs hb)
  have hs := sAll_nums hok
  refine ⟨vs, rfl, hb, pieces_two hf (low_no (rom_low (rule_rom hb))), by rw [d]; exact pieces_nums 43 noS_43 vs a, hs.1, hs.2, ?_⟩
  apply ByteArray.ext
  apply Array.toList_inj.1
  unfold textR
  rw [(cut_yes hf).1]
  simp only [ByteArray.data_append, Array.toList_append, ← d]
  simp
/-- Where it is not, something does not fit. -/
theorem bad_facts {s : ByteArray} {o : Option (List Int)} (h : GoodR s o = false) (hr : RNum 43 3 (cutA s) o) (hp : (piecesB 61 s).length = 2) (ha : sAll (piecesB 43 (cutA s)) = true) : ruleB ((piecesB 43 (cutA s)).map sN, cutB s) = false := by
  cases hb : ruleB ((piecesB 43 (cutA s)).map sN, cutB s)
  · rfl
  · exfalso
    have hf := (pieces_len2 hp).1
    have hn := sNum_all ha
    have hl := signs_len (rule_signs hb)
    have hA : cutA s = jB 43 (nums ((piecesB 43 (cutA s)).map sN)) := by rw [hn]; exact (join_pieces 43 (cutA s).size (cutA s) (Nat.le_refl _)).symm
    have h64 := in64_signs (rule_signs hb)
    cases o with
    | none => exact hr _ (by omega) hl.2 h64 hA
    | some vs =>
      obtain ⟨a, b, c, d⟩ := hr
      have e := jB_inj noS_43 c h64 a (by omega) (by rw [← d]; exact hA)
      unfold GoodR at h
      rw [hf, Bool.true_and] at h
      simp only at h
      rw [e, hb] at h
      cases h
end Go.Proofs.YtnodnjaajaemcabDoor
