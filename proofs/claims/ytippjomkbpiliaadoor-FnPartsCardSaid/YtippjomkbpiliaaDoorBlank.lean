/-
  Plain facts on joining texts by blanks and cutting at them again.
-/
import Derived.Test.YtippjomkbpiliaaDoorJoin
import Derived.Test.YtippjomkbpiliaaDoorSplit
namespace Go.Proofs.YtippjomkbpiliaaDoor
set_option linter.unusedVariables false
open Go.RowKit

theorem arr_back (s : ByteArray) : (⟨s.data.toList.toArray⟩ : ByteArray) = s := by simp
theorem get_at {s : ByteArray} {i : Nat} {c : UInt8} (hi : i < s.size) (h : s.data.toList[i]? = some c) : s[i] = c := by
  rw [List.getElem?_eq_getElem (by simpa using hi)] at h
  exact Option.some.inj h
theorem ext_data (s : ByteArray) (a b : Nat) (l : List UInt8) (h : (s.data.toList.drop a).take (b - a) = l) : s.extract a b = ⟨l.toArray⟩ := by
  apply ByteArray.ext
  apply Array.toList_inj.1
  rw [Lib.extract_data, h]
theorem bl_one (x : ByteArray) (h : ∀ c ∈ x.data.toList, c ≠ 32) : piecesB 32 x = [x] := by
  have h1 := rest_end 32 x 0 (Nat.zero_le _) (fun j _ hj => by
    intro e
    exact h _ (List.mem_of_getElem? e) rfl)
  rw [rest_zero, extract_all] at h1
  exact h1
theorem bl_cons (a r s : ByteArray) (ha : ∀ c ∈ a.data.toList, c ≠ 32) (hs : s.data.toList = a.data.toList ++ 32 :: r.data.toList) : piecesB 32 s = a :: piecesB 32 r := by
  have hza := size_list a
  have hzr := size_list r
  have hz : s.size = a.size + 1 + r.size := by
    have h1 := congrArg List.length hs
    rw [size_list, List.length_append, List.length_cons, hza, hzr] at h1
    omega
  have g0 : s.data.toList[a.size]? = some 32 := by rw [hs, ← hza, List.getElem?_append_right (Nat.le_refl _)]; simp
  rw [← rest_zero, rest_hit 32 s 0 a.size (Nat.zero_le _) (by omega) (get_at (by omega) g0) (fun j _ hj => by
    rw [hs, List.getElem?_append_left (by omega)]
    intro e
    exact ha _ (List.mem_of_getElem? e) rfl)]
  have e1 : s.extract 0 a.size = a := by
    have h1 := ext_data s 0 a.size a.data.toList (by rw [hs, List.drop_zero, Nat.sub_zero, List.take_left' hza])
    rw [h1, arr_back]
  have e2 : s.extract (a.size + 1) s.size = r := by
    have h1 := ext_data s (a.size + 1) s.size r.data.toList (by
      have hd : s.data.toList.drop (a.size + 1) = r.data.toList := by
        rw [hs, ← List.drop_drop, List.drop_left' hza]; rfl
      rw [hd]
      exact List.take_of_length_le (by omega))
    rw [h1, arr_back]
  rw [e1]
  unfold restB piecesB
  rw [e2, show s.size - (a.size + 1) = r.size by omega]
theorem bl_join : ∀ (x : ByteArray) (xs : List ByteArray), (∀ y ∈ x :: xs, ∀ c ∈ y.data.toList, c ≠ 32) → piecesB 32 (joinB (x :: xs)) = x :: xs
  | x, [], hx => by
    rw [joinB_one]
    exact bl_one _ (hx x (by simp))
  | x, y :: l, hx => by
    have h := bl_cons x (joinB (y :: l)) (joinB (x :: y :: l)) (hx x (by simp)) (by
      rw [joinB_data, joinB_data]
      exact joinL_cons _ _ _)
    rw [h, bl_join y l (fun z hz => hx z (List.mem_cons_of_mem _ hz))]
theorem bl_pos (c : UInt8) (s : ByteArray) : 0 < (piecesB c s).length := by rw [← rest_zero]; exact rest_pos _ _ _
theorem join_bl : ∀ (n : Nat) (s : ByteArray), s.size ≤ n → joinB (piecesB 32 s) = s := by
  intro n
  induction n with
  | zero =>
    intro s hs
    have h : piecesB 32 s = [s] := bl_one s (fun c hc => by
      have hz := size_list s
      have : s.data.toList = [] := List.eq_nil_of_length_eq_zero (by omega)
      rw [this] at hc; simp at hc)
    rw [h, joinB_one]
  | succ n ih =>
    intro s hs
    rcases Lib.index_spec s.data.toList [32] with ⟨_, hno⟩ | ⟨i, _, hi, ho, hno⟩
    · have h : piecesB 32 s = [s] := bl_one s (fun c hc => by
        rintro rfl
        obtain ⟨j, hj, he⟩ := List.mem_iff_getElem.1 hc
        have h1 := hno j (by omega)
        rw [occ_one] at h1
        have h2 := of_decide_eq_false h1
        exact h2 (by rw [List.getElem?_eq_getElem hj, he]))
      rw [h, joinB_one]
    · rw [occ_one] at ho
      have h0 := of_decide_eq_true ho
      have hil := (List.getElem?_eq_some_iff.1 h0).1
      have hie := (List.getElem?_eq_some_iff.1 h0).2
      have hz := size_list s
      have hs2 : s.data.toList = (⟨(s.data.toList.take i).toArray⟩ : ByteArray).data.toList ++ 32 :: (⟨(s.data.toList.drop (i + 1)).toArray⟩ : ByteArray).data.toList := by
        have h1 := (List.take_append_drop i s.data.toList).symm
        rw [List.drop_eq_getElem_cons hil, hie] at h1
        exact h1
      have h := bl_cons ⟨(s.data.toList.take i).toArray⟩ ⟨(s.data.toList.drop (i + 1)).toArray⟩ s (fun c hc => by
        rintro rfl
        obtain ⟨j, hj, he⟩ := List.mem_iff_getElem.1 hc
        have hj1 : j < (s.data.toList.take i).length := hj
        rw [List.length_take] at hj1
        have h1 := hno j (by omega)
        rw [occ_one] at h1
        have h2 := of_decide_eq_false h1
        have h3 : (s.data.toList.take i)[j]? = some 32 := by rw [List.getElem?_eq_getElem hj]; exact congrArg some he
        rw [List.getElem?_take, if_pos (by omega)] at h3
        exact h2 h3) hs2
      have hr : (⟨(s.data.toList.drop (i + 1)).toArray⟩ : ByteArray).size ≤ n := by
        show (s.data.toList.drop (i + 1)).toArray.size ≤ n
        rw [List.size_toArray, List.length_drop]; omega
      have h4 := ih _ hr
      rw [h]
      apply ByteArray.ext
      apply Array.toList_inj.1
      have hp := bl_pos 32 ⟨(s.data.toList.drop (i + 1)).toArray⟩
      cases hps : piecesB 32 ⟨(s.data.toList.drop (i + 1)).toArray⟩ with
      | nil => rw [hps] at hp; simp at hp
      | cons y l =>
        rw [hps] at h4
        have h5 := congrArg (fun b => b.data.toList) h4
        simp only [joinB_data, List.map_cons] at h5
        rw [joinB_data, List.map_cons, List.map_cons, joinL_cons, h5]
        exact hs2.symm

theorem low_no (x : ByteArray) (h : lowAll x.data.toList = true) : ∀ c ∈ x.data.toList, c ≠ 32 := fun c hc e => by
  unfold lowAll at h
  rw [List.all_eq_true] at h
  have := h c hc
  subst e
  simp [lowB] at this
end Go.Proofs.YtippjomkbpiliaaDoor
