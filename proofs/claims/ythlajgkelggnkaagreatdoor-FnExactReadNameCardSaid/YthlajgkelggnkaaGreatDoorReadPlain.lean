/-
  Plain facts on the text of a span: where its dots stand.
-/
import Derived.Test.YthlajgkelggnkaaGreatDoorRead
import Derived.Test.YthlajgkelggnkaaGreatDoorSpanText
import Derived.Test.YthlajgkelggnkaaGreatDoorSplitPlain
import Derived.Test.YthlajgkelggnkaaGreatDoorSigned
import Derived.Lib.CutLaws
namespace Go.Proofs.YthlajgkelggnkaaGreatDoor
set_option linter.unusedVariables false
open Go.RowKit

theorem dig_no {l : List UInt8} (h : digAll l = true) {c : UInt8} (hc : c ∈ l) : c ≠ 46 ∧ c ≠ 44 := by
  unfold digAll at h
  rw [List.all_eq_true] at h
  have h1 := h c hc
  unfold digB at h1
  simp only [Bool.and_eq_true, decide_eq_true_eq] at h1
  refine ⟨?_, ?_⟩
  · rintro rfl
    have : (46 : UInt8).toNat = 46 := rfl
    omega
  · rintro rfl
    have : (44 : UInt8).toNat = 44 := rfl
    omega
theorem num_no (n : Int) (c : UInt8) (h : c ∈ (numB n).data.toList) : c ≠ 46 ∧ c ≠ 44 := by
  rw [numB_data] at h
  by_cases hn : n < 0
  · rw [itoa_head n hn, List.mem_cons] at h
    rcases h with rfl | h
    · decide
    · exact dig_no (dec_digits _).1 h
  · rw [itoa_pos n hn] at h
    exact dig_no (dec_digits _).1 h
theorem span_data (x y : Int) : (spanB x y).data.toList = (numB x).data.toList ++ 46 :: 46 :: (numB y).data.toList := by
  unfold spanB
  simp
theorem occ_dd (A B : List UInt8) (hA : ∀ c ∈ A, c ≠ 46) (j : Nat) (hj : j < A.length) : Lib.occAt (A ++ 46 :: 46 :: B) [46, 46] j = false := by
  cases h : Lib.occAt (A ++ 46 :: 46 :: B) [46, 46] j
  · rfl
  · have h1 := Lib.occAt_head rfl h
    rw [List.getElem?_append_left hj, List.getElem?_eq_getElem hj] at h1
    exact absurd (Option.some.inj h1) (hA _ (List.getElem_mem hj))
theorem index_dd (A B : List UInt8) (hA : ∀ c ∈ A, c ≠ 46) : Lib.index (A ++ 46 :: 46 :: B) [46, 46] = (A.length : Int) :=
  Lib.index_first (by simp) (by unfold Lib.occAt; simp [List.isPrefixOf]) (fun j hj => occ_dd A B hA j hj)
theorem arr_back (s : ByteArray) : (⟨s.data.toList.toArray⟩ : ByteArray) = s := by simp
theorem cut_yes (x y : Int) : Lib.cut (spanB x y).data.toList [46, 46] = ((numB x).data.toList, (numB y).data.toList, true) := by
  rw [span_data]
  unfold Lib.cut
  rw [index_dd _ _ (fun c hc => (num_no x c hc).1), if_pos (by omega)]
  have e : (((numB x).data.toList.length : Int)).toNat = (numB x).data.toList.length := by omega
  rw [e]
  have h1 : ((numB x).data.toList ++ 46 :: 46 :: (numB y).data.toList).take (numB x).data.toList.length = (numB x).data.toList := List.take_left' rfl
  have h2 : ((numB x).data.toList ++ 46 :: 46 :: (numB y).data.toList).drop ((numB x).data.toList.length + ([46, 46] : List UInt8).length) = (numB y).data.toList := by
    rw [← List.drop_drop, List.drop_left' rfl]; rfl
  rw [h1, h2]
theorem cut_cases (s : ByteArray) : (∃ A B, Lib.cut s.data.toList [46, 46] = (A, B, true) ∧ s.data.toList = A ++ 46 :: 46 :: B) ∨ ∃ A, Lib.cut s.data.toList [46, 46] = (A, [], false) := by
  rcases Lib.index_spec s.data.toList [46, 46] with ⟨h, _⟩ | ⟨i, h, hi, ho, _⟩
  · right
    unfold Lib.cut
    rw [h, if_neg (by omega)]
    exact ⟨_, rfl⟩
  · left
    unfold Lib.cut
    rw [h, if_pos (by omega)]
    have e : ((i : Int)).toNat = i := by omega
    rw [e]
    refine ⟨_, _, rfl, ?_⟩
    unfold Lib.occAt at ho
    obtain ⟨r, hr⟩ := List.isPrefixOf_iff_prefix.1 ho
    have h2 : s.data.toList.drop (i + ([46, 46] : List UInt8).length) = r := by
      rw [← List.drop_drop, ← hr]; rfl
    rw [h2]
    have h3 := (List.take_append_drop i s.data.toList).symm
    rw [← hr] at h3
    exact h3
theorem rN_empty : rN (⟨([] : List UInt8).toArray⟩ : ByteArray) = none := rN_other (fun v h => by simp [Lib.parseIntB] at h)
/-- A text that is no span's: one of what the dots part is no number, or the span is not valid. -/
theorem no_read (s : ByteArray) (hno : ∀ x y, spB x y = true → s ≠ spanB x y) (x y : Int) (hx : rN ⟨(Lib.cut s.data.toList [46, 46]).1.toArray⟩ = some x) (hy : rN ⟨(Lib.cut s.data.toList [46, 46]).2.1.toArray⟩ = some y) : spB x y = false := by
  cases hv : spB x y
  · rfl
  · exfalso
    rcases cut_cases s with ⟨A, B, hc, hs⟩ | ⟨A, hc⟩
    · rw [hc] at hx hy
      refine hno x y hv ?_
      apply ByteArray.ext
      apply Array.toList_inj.1
      rw [span_data, (rN_some hx).1, (rN_some hy).1, hs]
    · rw [hc] at hy
      have h := rN_empty
      rw [show (rN ⟨(A, ([] : List UInt8), false).2.1.toArray⟩) = none from h] at hy
      cases hy
theorem get_at {s : ByteArray} {i : Nat} {c : UInt8} (hi : i < s.size) (h : s.data.toList[i]? = some c) : s[i] = c := by
  rw [List.getElem?_eq_getElem (by simpa using hi)] at h
  exact Option.some.inj h
theorem ext_data (s : ByteArray) (a b : Nat) (l : List UInt8) (h : (s.data.toList.drop a).take (b - a) = l) : s.extract a b = ⟨l.toArray⟩ := by
  apply ByteArray.ext
  apply Array.toList_inj.1
  rw [Lib.extract_data, h]
theorem pieces_dd (s : ByteArray) (A B : List UInt8) (hA : ∀ c ∈ A, c ≠ 46) (hB : ∀ c ∈ B, c ≠ 46) (hs : s.data.toList = A ++ 46 :: 46 :: B) : piecesB 46 s = [⟨A.toArray⟩, ⟨([] : List UInt8).toArray⟩, ⟨B.toArray⟩] := by
  have hz : s.size = A.length + 2 + B.length := by
    have h1 := congrArg List.length hs
    rw [size_list] at h1
    simp at h1
    omega
  have g0 : s.data.toList[A.length]? = some 46 := by rw [hs, List.getElem?_append_right (Nat.le_refl _)]; simp
  have g1 : s.data.toList[A.length + 1]? = some 46 := by rw [hs, List.getElem?_append_right (by omega)]; simp
  rw [← rest_zero, rest_hit 46 s 0 A.length (Nat.zero_le _) (by omega) (get_at (by omega) g0) (fun j _ hj => by
    rw [hs, List.getElem?_append_left hj, List.getElem?_eq_getElem hj]
    exact fun e => hA _ (List.getElem_mem hj) (Option.some.inj e)),
    rest_hit 46 s (A.length + 1) (A.length + 1) (Nat.le_refl _) (by omega) (get_at (by omega) g1) (fun j h1 h2 => by omega),
    rest_end 46 s (A.length + 1 + 1) (by omega) (fun j h1 h2 => by
      obtain ⟨d, rfl⟩ : ∃ d, j = A.length + 2 + d := ⟨j - (A.length + 2), by omega⟩
      rw [hs, List.getElem?_append_right (by omega), show A.length + 2 + d - A.length = d + 1 + 1 by omega, List.getElem?_cons_succ, List.getElem?_cons_succ]
      intro e
      exact hB _ (List.mem_of_getElem? e) rfl)]
  have e1 : s.extract 0 A.length = ⟨A.toArray⟩ := ext_data _ _ _ _ (by rw [hs, List.drop_zero, Nat.sub_zero, List.take_left' rfl])
  have e2 : s.extract (A.length + 1) (A.length + 1) = ⟨([] : List UInt8).toArray⟩ := ext_data _ _ _ _ (by rw [Nat.sub_self, List.take_zero])
  have e3 : s.extract (A.length + 1 + 1) s.size = ⟨B.toArray⟩ := ext_data _ _ _ _ (by
    have hd : s.data.toList.drop (A.length + 1 + 1) = B := by
      rw [hs, show A.length + 1 + 1 = A.length + 2 by omega, ← List.drop_drop, List.drop_left' rfl]; rfl
    rw [hd]
    exact List.take_of_length_le (by omega))
  rw [e1, e2, e3]
theorem pieces_span (x y : Int) : piecesB 46 (spanB x y) = [numB x, ByteArray.empty, numB y] := by
  have h := pieces_dd (spanB x y) _ _ (fun c hc => (num_no x c hc).1) (fun c hc => (num_no y c hc).1) (span_data x y)
  rw [arr_back, arr_back] at h
  exact h
end Go.Proofs.YthlajgkelggnkaaGreatDoor
