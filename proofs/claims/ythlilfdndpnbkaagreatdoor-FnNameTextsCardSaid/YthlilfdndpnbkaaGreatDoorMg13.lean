/-
  Plain facts on the text of a span: where its dots stand.
-/
import Derived.Test.YthlilfdndpnbkaaGreatDoorRead
import Derived.Test.YthlilfdndpnbkaaGreatDoorSpanText
import Derived.Test.YthlilfdndpnbkaaGreatDoorMg4
import Derived.Test.YthlilfdndpnbkaaGreatDoorSigned
import Derived.Lib.CutLaws
import Derived.Test.YthlilfdndpnbkaaGreatDoorNText
import Derived.Test.YthlilfdndpnbkaaGreatDoorRdPl9
namespace Go.Proofs.YthlilfdndpnbkaaGreatDoor
section
set_option linter.unusedVariables false
open Go.RowKit

theorem dig_no {l : List UInt8} (h : digAll l = true) {c : UInt8} (hc : c ∈ l) : c ≠ 46 ∧ c ≠ 44 := by
  unfold digAll at h
  rw [List.all_eq_true] at h
  have h1 := h c hc
  unfold digB at h1
  simp only [Bool.and_eq_true, decide_eq_true_eq] at h1
  refine ⟨?_, ?_⟩
  · rintro rfl
    have : (46 : UInt8).toNat = 46 := rfl
    omega
  · rintro rfl
    have : (44 : UInt8).toNat = 44 := rfl
    omega
theorem num_no (n : Int) (c : UInt8) (h : c ∈ (numB n).data.toList) : c ≠ 46 ∧ c ≠ 44 := by
  rw [numB_data] at h
  by_cases hn : n < 0
  · rw [itoa_head n hn, List.mem_cons] at h
    rcases h with rfl | h
    · decide
    · exact dig_no (dec_digits _).1 h
  · rw [itoa_pos n hn] at h
    exact dig_no (dec_digits _).1 h
theorem span_data (x y : Int) : (spanB x y).data.toList = (numB x).data.toList ++ 46 :: 46 :: (numB y).data.toList := by
  unfold spanB
  simp
theorem occ_dd (A B : List UInt8) (hA : ∀ c ∈ A, c ≠ 46) (j : Nat) (hj : j < A.length) : Lib.occAt (A ++ 46 :: 46 :: B) [46, 46] j = false := by
  cases h : Lib.occAt (A ++ 46 :: 46 :: B) [46, 46] j
  · rfl
  · have h1 := Lib.occAt_head rfl h
    rw [List.getElem?_append_left hj, List.getElem?_eq_getElem hj] at h1
    exact absurd (Option.some.inj h1) (hA _ (List.getElem_mem hj))
theorem index_dd (A B : List UInt8) (hA : ∀ c ∈ A, c ≠ 46) : Lib.index (A ++ 46 :: 46 :: B) [46, 46] = (A.length : Int) :=
  Lib.index_first (by simp) (by unfold Lib.occAt; simp [List.isPrefixOf]) (fun j hj => occ_dd A B hA j hj)
theorem arr_back (s : ByteArray) : (⟨s.data.toList.toArray⟩ : ByteArray) = s := by simp
theorem cut_yes (x y : Int) : Lib.cut (spanB x y).data.toList [46, 46] = ((numB x).data.toList, (numB y).data.toList, true) := by
  rw [span_data]
  unfold Lib.cut
  rw [index_dd _ _ (fun c hc => (num_no x c hc).1), if_pos (by omega)]
  have e : (((numB x).data.toList.length : Int)).toNat = (numB x).data.toList.length := by omega
  rw [e]
  have h1 : ((numB x).data.toList ++ 46 :: 46 :: (numB y).data.toList).take (numB x).data.toList.length = (numB x).data.toList := List.take_left' rfl
  have h2 : ((numB x).data.toList ++ 46 :: 46 :: (numB y).data.toList).drop ((numB x).data.toList.length + ([46, 46] : List UInt8).length) = (numB y).data.toList := by
    rw [← List.drop_drop, List.drop_left' rfl]; rfl
  rw [h1, h2]
theorem cut_cases (s : ByteArray) : (∃ A B, Lib.cut s.data.toList [46, 46] = (A, B, true) ∧ s.data.toList = A ++ 46 :: 46 :: B) ∨ ∃ A, Lib.cut s.data.toList [46, 46] = (A, [], false) := by
  rcases Lib.index_spec s.data.toList [46, 46] with ⟨h, _⟩ | ⟨i, h, hi, ho, _⟩
  · right
    unfold Lib.cut
    rw [h, if_neg (by omega)]
    exact ⟨_, rfl⟩
  · left
    unfold Lib.cut
    rw [h, if_pos (by omega)]
    have e : ((i : Int)).toNat = i := by omega
    rw [e]
    refine ⟨_, _, rfl, ?_⟩
    unfold Lib.occAt at ho
    obtain ⟨r, hr⟩ := List.isPrefixOf_iff_prefix.1 ho
    have h2 : s.data.toList.drop (i + ([46, 46] : List UInt8).length) = r := by
      rw [← List.drop_drop, ← hr]; rfl
    rw [h2]
    have h3 := (List.take_append_drop i s.data.toList).symm
    rw [← hr] at h3
    exact h3
theorem rN_empty : rN (⟨([] : List UInt8).toArray⟩ : ByteArray) = none := rN_other (fun v h => by simp [Lib.parseIntB] at h)
/-- A text that is no span's: one of what the dots part is no number, or the span is not valid. -/
theorem no_read (s : ByteArray) (hno : ∀ x y, spB x y = true → s ≠ spanB x y) (x y : Int) (hx : rN ⟨(Lib.cut s.data.toList [46, 46]).1.toArray⟩ = some x) (hy : rN ⟨(Lib.cut s.data.toList [46, 46]).2.1.toArray⟩ = some y) : spB x y = false := by
  cases hv : spB x y
  · rfl
  · exfalso
    rcases cut_cases s with ⟨A, B, hc, hs⟩ | ⟨A, hc⟩
    · rw [hc] at hx hy
      refine hno x y hv ?_
      apply ByteArray.ext
      apply Array.toList_inj.1
      rw [span_data, (rN_some hx).1, (rN_some hy).1, hs]
    · rw [hc] at hy
      have h := rN_empty
      rw [show (rN ⟨(A, ([] : List UInt8), false).2.1.toArray⟩) = none from h] at hy
      cases hy
theorem get_at {s : ByteArray} {i : Nat} {c : UInt8} (hi : i < s.size) (h : s.data.toList[i]? = some c) : s[i] = c := by
  rw [List.getElem?_eq_getElem (by simpa using hi)] at h
  exact Option.some.inj h
theorem ext_data (s : ByteArray) (a b : Nat) (l : List UInt8) (h : (s.data.toList.drop a).take (b - a) = l) : s.extract a b = ⟨l.toArray⟩ := by
  apply ByteArray.ext
  apply Array.toList_inj.1
  rw [Lib.extract_data, h]
theorem pieces_dd (s : ByteArray) (A B : List UInt8) (hA : ∀ c ∈ A, c ≠ 46) (hB : ∀ c ∈ B, c ≠ 46) (hs : s.data.toList = A ++ 46 :: 46 :: B) : piecesB 46 s = [⟨A.toArray⟩, ⟨([] : List UInt8).toArray⟩, ⟨B.toArray⟩] := by
  have hz : s.size = A.length + 2 + B.length := by
    have h1 := congrArg List.length hs
    rw [size_list] at h1
    simp at h1
    omega
  have g0 : s.data.toList[A.length]? = some 46 := by rw [hs, List.getElem?_append_right (Nat.le_refl _)]; simp
  have g1 : s.data.toList[A.length + 1]? = some 46 := by rw [hs, List.getElem?_append_right (by omega)]; simp
  rw [← rest_zero, rest_hit 46 s 0 A.length (Nat.zero_le _) (by omega) (get_at (by omega) g0) (fun j _ hj => by
    rw [hs, List.getElem?_append_left hj, List.getElem?_eq_getElem hj]
    exact fun e => hA _ (List.getElem_mem hj) (Option.some.inj e)),
    rest_hit 46 s (A.length + 1) (A.length + 1) (Nat.le_refl _) (by omega) (get_at (by omega) g1) (fun j h1 h2 => by omega),
    rest_end 46 s (A.length + 1 + 1) (by omega) (fun j h1 h2 => by
      obtain ⟨d, rfl⟩ : ∃ d, j = A.length + 2 + d := ⟨j - (A.length + 2), by omega⟩
      rw [hs, List.getElem?_append_right (by omega), show A.length + 2 + d - A.length = d + 1 + 1 by omega, List.getElem?_cons_succ, List.getElem?_cons_succ]
      intro e
      exact hB _ (List.mem_of_getElem? e) rfl)]
  have e1 : s.extract 0 A.length = ⟨A.toArray⟩ := ext_data _ _ _ _ (by rw [hs, List.drop_zero, Nat.sub_zero, List.take_left' rfl])
  have e2 : s.extract (A.length + 1) (A.length + 1) = ⟨([] : List UInt8).toArray⟩ := ext_data _ _ _ _ (by rw [Nat.sub_self, List.take_zero])
  have e3 : s.extract (A.length + 1 + 1) s.size = ⟨B.toArray⟩ := ext_data _ _ _ _ (by
    have hd : s.data.toList.drop (A.length + 1 + 1) = B := by
      rw [hs, show A.length + 1 + 1 = A.length + 2 by omega, ← List.drop_drop, List.drop_left' rfl]; rfl
    rw [hd]
    exact List.take_of_length_le (by omega))
  rw [e1, e2, e3]
theorem pieces_span (x y : Int) : piecesB 46 (spanB x y) = [numB x, ByteArray.empty, numB y] := by
  have h := pieces_dd (spanB x y) _ _ (fun c hc => (num_no x c hc).1) (fun c hc => (num_no y c hc).1) (span_data x y)
  rw [arr_back, arr_back] at h
  exact h
end
section
set_option linter.unusedVariables false
open Go.RowKit

theorem mem_join9 : ∀ (ls : List (List UInt8)) (sep : List UInt8) (c : UInt8), c ∈ Lib.join ls sep → (∃ l ∈ ls, c ∈ l) ∨ c ∈ sep
  | [], sep, c, h => by simp [Lib.join] at h
  | [a], sep, c, h => .inl ⟨a, by simp, by simpa [Lib.join] using h⟩
  | a :: b :: ls, sep, c, h => by
    have h' : c ∈ a ++ sep ++ Lib.join (b :: ls) sep := by simpa [Lib.join] using h
    rw [List.mem_append, List.mem_append] at h'
    rcases h' with (h' | h') | h'
    · exact .inl ⟨a, by simp, h'⟩
    · exact .inr h'
    · rcases mem_join9 (b :: ls) sep c h' with ⟨l, hl, hc⟩ | hc
      · exact .inl ⟨l, List.mem_cons_of_mem _ hl, hc⟩
      · exact .inr hc
theorem low_no9 {l : List UInt8} (h : lowAll l = true) : ∀ c ∈ l, c ≠ 47 := fun c hc e => by
  unfold lowAll at h
  rw [List.all_eq_true] at h
  have := h c hc
  subst e
  simp [lowB] at this
theorem word_low9 {x : ByteArray} (h : wordB x = true) : lowAll x.data.toList = true := by
  unfold wordB at h; simp at h; exact h.2
theorem words_mem9 : ∀ {xs : List ByteArray}, wordsB xs = true → ∀ x ∈ xs, wordB x = true := fun h x hx => by
  unfold wordsB at h; rw [List.all_eq_true] at h; exact h x hx
theorem phrase_no9 {s : ByteArray} (h : phraseB s = true) : ∀ c ∈ s.data.toList, c ≠ 47 := fun c hc => by
  have hj := join_pieces 32 s.size s (Nat.le_refl _)
  unfold phraseB spaceB at h
  rw [Bool.and_eq_true] at h
  rw [← hj] at hc
  unfold jB at hc
  rcases mem_join9 _ _ c (by simpa using hc) with ⟨l, hl, hcl⟩ | hcs
  · obtain ⟨x, hx, rfl⟩ := List.mem_map.1 hl
    exact low_no9 (word_low9 (words_mem9 h.1 x hx)) c hcl
  · unfold sepB at hcs
    simp at hcs
    rw [hcs]; decide
theorem lang_no9 {s : ByteArray} (h : langB s = true) : ∀ c ∈ s.data.toList, c ≠ 47 := by
  unfold langB at h; rw [Bool.and_eq_true] at h; exact low_no9 h.2
theorem num_no9 (n : Int) : ∀ c ∈ (numB n).data.toList, c ≠ 47 := fun c hc e => by
  rcases num_in n c hc with h | h
  · rw [h] at e; cases e
  · rw [e] at h; have : (47 : UInt8).toNat = 47 := rfl; omega
theorem span_no9 (x y : Int) : ∀ c ∈ (spanB x y).data.toList, c ≠ 47 := fun c hc => by
  rw [span_data] at hc
  rw [List.mem_append, List.mem_cons, List.mem_cons] at hc
  rcases hc with h | h | h | h
  · exact num_no9 _ c h
  · rw [h]; decide
  · rw [h]; decide
  · exact num_no9 _ c h
theorem ap_data9 (a b : ByteArray) : (a ++ b).data.toList = a.data.toList ++ b.data.toList := by simp
theorem nt_pieces {n : Nm} (h : nmB n = true) : piecesB 47 (ntB n) = [n.t, n.l, numB n.s, spanB n.f n.u] := by
  obtain ⟨h1, h2, _⟩ := nm_parts h
  have e1 : (ntB n).data.toList = n.t.data.toList ++ 47 :: (n.l ++ slB ++ numB n.s ++ slB ++ spanB n.f n.u).data.toList := by
    unfold ntB; simp [slB]
  rw [pieces_cons 47 n.t (n.l ++ slB ++ numB n.s ++ slB ++ spanB n.f n.u) _ (phrase_no9 h1) e1]
  rw [pieces_cons 47 n.l (numB n.s ++ slB ++ spanB n.f n.u) _ (lang_no9 h2) (by simp [slB])]
  rw [pieces_cons 47 (numB n.s) (spanB n.f n.u) _ (num_no9 _) (by simp [slB])]
  rw [pieces_one 47 _ (span_no9 _ _)]
theorem num_inj9 {a b : Int} (ha : -9223372036854775808 ≤ a ∧ a ≤ 9223372036854775807) (hb : -9223372036854775808 ≤ b ∧ b ≤ 9223372036854775807) (h : numB a = numB b) : a = b := by
  have h1 := rN_of a ha.1 ha.2
  rw [h, rN_of b hb.1 hb.2] at h1
  exact (Option.some.inj h1).symm
theorem nt_join {s a b c d : ByteArray} (h : piecesB 47 s = [a, b, c, d]) : s = a ++ slB ++ b ++ slB ++ c ++ slB ++ d := by
  have hj := join_pieces 47 s.size s (Nat.le_refl _)
  rw [h] at hj
  rw [← hj]
  exact join4 a b c d (sepB 47)
theorem nt_inj {n m : Nm} (hn : nmB n = true) (hm : nmB m = true) (h : ntB n = ntB m) : n = m := by
  have h1 := nt_pieces hn
  rw [h, nt_pieces hm] at h1
  injection h1 with e1 h1
  injection h1 with e2 h1
  injection h1 with e3 h1
  injection h1 with e4 h1
  obtain ⟨_, _, p1, p2, p3⟩ := nm_parts hn
  obtain ⟨_, _, q1, q2, q3⟩ := nm_parts hm
  have b1 := spB_bd p3
  have b2 := spB_bd q3
  have h2 := pieces_span n.f n.u
  rw [← e4, pieces_span m.f m.u] at h2
  injection h2 with f1 h2
  injection h2 with f2 h2
  injection h2 with f3 h2
  exact Nm.ext' e1.symm e2.symm (num_inj9 (by omega) (by omega) e3.symm) (num_inj9 (by omega) (by omega) f1.symm) (num_inj9 (by omega) (by omega) f3.symm)
open Classical in
noncomputable def rdF (s : ByteArray) : Nm := if h : ∃ n : Nm, nmB n = true ∧ ntB n = s then h.choose else ⟨ByteArray.empty, ByteArray.empty, 0, 0, 0⟩
open Classical in
noncomputable def rdC (s : ByteArray) : Int := if ∃ n : Nm, nmB n = true ∧ ntB n = s then 0 else 6
theorem rd_hit {s : ByteArray} {n : Nm} (h1 : nmB n = true) (h2 : ntB n = s) : rdF s = n ∧ rdC s = 0 := by
  have he : ∃ n : Nm, nmB n = true ∧ ntB n = s := ⟨n, h1, h2⟩
  unfold rdF rdC
  rw [dif_pos he, if_pos he]
  exact ⟨nt_inj he.choose_spec.1 h1 (he.choose_spec.2.trans h2.symm), rfl⟩
theorem rd_miss {s : ByteArray} (h : ∀ n : Nm, nmB n = true → ntB n ≠ s) : rdF s = ⟨ByteArray.empty, ByteArray.empty, 0, 0, 0⟩ ∧ rdC s = 6 := by
  have he : ¬ ∃ n : Nm, nmB n = true ∧ ntB n = s := fun ⟨n, h1, h2⟩ => h n h1 h2
  unfold rdF rdC
  rw [dif_neg he, if_neg he]
  exact ⟨rfl, rfl⟩
/-- What a text's four pieces must be. -/
theorem rd_parts {s a b c d : ByteArray} (h : piecesB 47 s = [a, b, c, d]) {n : Nm} (h1 : nmB n = true) (h2 : ntB n = s) : n.t = a ∧ n.l = b ∧ numB n.s = c ∧ spanB n.f n.u = d := by
  have h3 := nt_pieces h1
  rw [h2, h] at h3
  injection h3 with e1 h3
  injection h3 with e2 h3
  injection h3 with e3 h3
  injection h3 with e4 h3
  exact ⟨e1.symm, e2.symm, e3.symm, e4.symm⟩
end
end Go.Proofs.YthlilfdndpnbkaaGreatDoor
