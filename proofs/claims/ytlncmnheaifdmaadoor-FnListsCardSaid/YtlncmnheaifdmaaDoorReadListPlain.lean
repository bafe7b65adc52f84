/-
  Plain facts on the text of a list: cutting it at its commas and joining it again.
-/
import Derived.Test.YtlncmnheaifdmaaDoorReadPlain
namespace Go.Proofs.YtlncmnheaifdmaaDoor
set_option linter.unusedVariables false
open Go.RowKit

theorem pieces_one (x : ByteArray) (h : ∀ c ∈ x.data.toList, c ≠ 44) : piecesB 44 x = [x] := by
  have h1 := rest_end 44 x 0 (Nat.zero_le _) (fun j _ hj => by
    intro e
    exact h _ (List.mem_of_getElem? e) rfl)
  rw [rest_zero, extract_all] at h1
  exact h1
theorem pieces_cons (a r s : ByteArray) (ha : ∀ c ∈ a.data.toList, c ≠ 44) (hs : s.data.toList = a.data.toList ++ 44 :: r.data.toList) : piecesB 44 s = a :: piecesB 44 r := by
  have hza := size_list a
  have hzr := size_list r
  have hz : s.size = a.size + 1 + r.size := by
    have h1 := congrArg List.length hs
    rw [size_list, List.length_append, List.length_cons, hza, hzr] at h1
    omega
  have g0 : s.data.toList[a.size]? = some 44 := by rw [hs, ← hza, List.getElem?_append_right (Nat.le_refl _)]; simp
  rw [← rest_zero, rest_hit 44 s 0 a.size (Nat.zero_le _) (by omega) (get_at (by omega) g0) (fun j _ hj => by
    rw [hs, List.getElem?_append_left (by omega)]
    intro e
    exact ha _ (List.mem_of_getElem? e) rfl)]
  have e1 : s.extract 0 a.size = a := by
    have h1 := ext_data s 0 a.size a.data.toList (by rw [hs, List.drop_zero, Nat.sub_zero, List.take_left' hza])
    rw [h1, arr_back]
  have e2 : s.extract (a.size + 1) s.size = r := by
    have h1 := ext_data s (a.size + 1) s.size r.data.toList (by
      have hd : s.data.toList.drop (a.size + 1) = r.data.toList := by
        rw [hs, ← List.drop_drop, List.drop_left' hza]; rfl
      rw [hd]
      exact List.take_of_length_le (by omega))
    rw [h1, arr_back]
  rw [e1]
  unfold restB piecesB
  rw [e2, show s.size - (a.size + 1) = r.size by omega]
theorem pieces_join : ∀ (x : Int) (xs : List Int), piecesB 44 (comB (nums (x :: xs))) = nums (x :: xs)
  | x, [] => by
    show piecesB 44 (comB [numB x]) = [numB x]
    rw [comB_one]
    exact pieces_one _ (fun c hc => (num_no x c hc).2)
  | x, y :: l => by
    have h := pieces_cons (numB x) (comB (nums (y :: l))) (comB (nums (x :: y :: l))) (fun c hc => (num_no x c hc).2) (by
      rw [comB_data, comB_data]
      exact comL_cons _ _ _)
    rw [h, pieces_join y l]; rfl
theorem pieces_nums (xs : List Int) (h : 0 < xs.length) : piecesB 44 (comB (nums xs)) = nums xs := by
  cases xs with
  | nil => simp at h
  | cons x l => exact pieces_join x l
theorem pieces_pos (c : UInt8) (s : ByteArray) : 0 < (piecesB c s).length := by rw [← rest_zero]; exact rest_pos _ _ _
theorem join_pieces : ∀ (n : Nat) (s : ByteArray), s.size ≤ n → comB (piecesB 44 s) = s := by
  intro n
  induction n with
  | zero =>
    intro s hs
    have h : piecesB 44 s = [s] := pieces_one s (fun c hc => by
      have hz := size_list s
      have : s.data.toList = [] := List.eq_nil_of_length_eq_zero (by omega)
      rw [this] at hc; simp at hc)
    rw [h, comB_one]
  | succ n ih =>
    intro s hs
    rcases Lib.index_spec s.data.toList [44] with ⟨_, hno⟩ | ⟨i, _, hi, ho, hno⟩
    · have h : piecesB 44 s = [s] := pieces_one s (fun c hc => by
        rintro rfl
        obtain ⟨j, hj, he⟩ := List.mem_iff_getElem.1 hc
        have h1 := hno j (by omega)
        rw [occ_one] at h1
        have h2 := of_decide_eq_false h1
        exact h2 (by rw [List.getElem?_eq_getElem hj, he]))
      rw [h, comB_one]
    · rw [occ_one] at ho
      have h0 := of_decide_eq_true ho
      have hil := (List.getElem?_eq_some_iff.1 h0).1
      have hie := (List.getElem?_eq_some_iff.1 h0).2
      have hz := size_list s
      have hs2 : s.data.toList = (⟨(s.data.toList.take i).toArray⟩ : ByteArray).data.toList ++ 44 :: (⟨(s.data.toList.drop (i + 1)).toArray⟩ : ByteArray).data.toList := by
        have h1 := (List.take_append_drop i s.data.toList).symm
        rw [List.drop_eq_getElem_cons hil, hie] at h1
        exact h1
      have h := pieces_cons ⟨(s.data.toList.take i).toArray⟩ ⟨(s.data.toList.drop (i + 1)).toArray⟩ s (fun c hc => by
        rintro rfl
        obtain ⟨j, hj, he⟩ := List.mem_iff_getElem.1 hc
        have hj1 : j < (s.data.toList.take i).length := hj
        rw [List.length_take] at hj1
        have h1 := hno j (by omega)
        rw [occ_one] at h1
        have h2 := of_decide_eq_false h1
        have h3 : (s.data.toList.take i)[j]? = some 44 := by rw [List.getElem?_eq_getElem hj]; exact congrArg some he
        rw [List.getElem?_take, if_pos (by omega)] at h3
        exact h2 h3) hs2
      have hr : (⟨(s.data.toList.drop (i + 1)).toArray⟩ : ByteArray).size ≤ n := by
        show (s.data.toList.drop (i + 1)).toArray.size ≤ n
        rw [List.size_toArray, List.length_drop]; omega
      have h4 := ih _ hr
      rw [h]
      apply ByteArray.ext
      apply Array.toList_inj.1
      have hp := pieces_pos 44 ⟨(s.data.toList.drop (i + 1)).toArray⟩
      cases hps : piecesB 44 ⟨(s.data.toList.drop (i + 1)).toArray⟩ with
      | nil => rw [hps] at hp; simp at hp
      | cons y l =>
        rw [hps] at h4
        have h5 := congrArg (fun b => b.data.toList) h4
        simp only [comB_data, List.map_cons] at h5
        rw [comB_data, List.map_cons, List.map_cons, comL_cons, h5]
        exact hs2.symm
def cut61 (s : ByteArray) : List ByteArray := Lib.splitB (sepB 44) 0 (min 61 (s.size + 1) - 1) s
theorem cut61_facts (s : ByteArray) : 0 < (cut61 s).length ∧ (cut61 s).length ≤ 61 ∧ ((cut61 s).length ≤ 60 → cut61 s = piecesB 44 s) ∧ ((piecesB 44 s).length ≤ 61 → cut61 s = piecesB 44 s) := by
  have hl : (cut61 s).length ≤ (min 61 (s.size + 1) - 1) + 1 := Lib.splitB_length_le _ _ _ _
  have hp := pieces_pos 44 s
  rcases split_some 44 (min 61 (s.size + 1) - 1) s.size s (by omega) with h | ⟨h1, h2⟩
  · have hq : cut61 s = piecesB 44 s := h
    rw [hq] at hl ⊢
    exact ⟨hp, by omega, fun _ => rfl, fun _ => rfl⟩
  · have h1' : (cut61 s).length = (min 61 (s.size + 1) - 1) + 1 := h1
    have h2' : (min 61 (s.size + 1) - 1) + 1 < (piecesB 44 s).length := h2
    have hm : min 61 (s.size + 1) - 1 = 60 := by
      have := pieces_len 44 s
      omega
    exact ⟨by omega, by omega, fun h => by omega, fun h => by omega⟩
end Go.Proofs.YtlncmnheaifdmaaDoor
