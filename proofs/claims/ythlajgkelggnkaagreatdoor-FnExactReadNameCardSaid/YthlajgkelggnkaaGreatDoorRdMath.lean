/-
  Plain facts on the text of a name: it is read back from its pieces.
-/
import Derived.Test.YthlajgkelggnkaaGreatDoorNText
import Derived.Test.YthlajgkelggnkaaGreatDoorRdPl9
import Derived.Test.YthlajgkelggnkaaGreatDoorReadPlain
namespace Go.Proofs.YthlajgkelggnkaaGreatDoor
set_option linter.unusedVariables false
open Go.RowKit

theorem mem_join9 : ∀ (ls : List (List UInt8)) (sep : List UInt8) (c : UInt8), c ∈ Lib.join ls sep → (∃ l ∈ ls, c ∈ l) ∨ c ∈ sep
  | [], sep, c, h => by simp [Lib.join] at h
  | [a], sep, c, h => .inl ⟨a, by simp, by simpa [Lib.join] using h⟩
  | a :: b :: ls, sep, c, h => by
    have h' : c ∈ a ++ sep ++ Lib.join (b :: ls) sep := by simpa [Lib.join] using h
    rw [List.mem_append, List.mem_append] at h'
    rcases h' with (h' | h') | h'
    · exact .inl ⟨a, by simp, h'⟩
    · exact .inr h'
    · rcases mem_join9 (b :: ls) sep c h' with ⟨l, hl, hc⟩ | hc
      · exact .inl ⟨l, List.mem_cons_of_mem _ hl, hc⟩
      · exact .inr hc
theorem low_no9 {l : List UInt8} (h : lowAll l = true) : ∀ c ∈ l, c ≠ 47 := fun c hc e => by
  unfold lowAll at h
  rw [List.all_eq_true] at h
  have := h c hc
  subst e
  simp [lowB] at this
theorem word_low9 {x : ByteArray} (h : wordB x = true) : lowAll x.data.toList = true := by
  unfold wordB at h; simp at h; exact h.2
theorem words_mem9 : ∀ {xs : List ByteArray}, wordsB xs = true → ∀ x ∈ xs, wordB x = true := fun h x hx => by
  unfold wordsB at h; rw [List.all_eq_true] at h; exact h x hx
theorem phrase_no9 {s : ByteArray} (h : phraseB s = true) : ∀ c ∈ s.data.toList, c ≠ 47 := fun c hc => by
  have hj := join_pieces 32 s.size s (Nat.le_refl _)
  unfold phraseB spaceB at h
  rw [Bool.and_eq_true] at h
  rw [← hj] at hc
  unfold jB at hc
  rcases mem_join9 _ _ c (by simpa using hc) with ⟨l, hl, hcl⟩ | hcs
  · obtain ⟨x, hx, rfl⟩ := List.mem_map.1 hl
    exact low_no9 (word_low9 (words_mem9 h.1 x hx)) c hcl
  · unfold sepB at hcs
    simp at hcs
    rw [hcs]; decide
theorem lang_no9 {s : ByteArray} (h : langB s = true) : ∀ c ∈ s.data.toList, c ≠ 47 := by
  unfold langB at h; rw [Bool.and_eq_true] at h; exact low_no9 h.2
theorem num_no9 (n : Int) : ∀ c ∈ (numB n).data.toList, c ≠ 47 := fun c hc e => by
  rcases num_in n c hc with h | h
  · rw [h] at e; cases e
  · rw [e] at h; have : (47 : UInt8).toNat = 47 := rfl; omega
theorem span_no9 (x y : Int) : ∀ c ∈ (spanB x y).data.toList, c ≠ 47 := fun c hc => by
  rw [span_data] at hc
  rw [List.mem_append, List.mem_cons, List.mem_cons] at hc
  rcases hc with h | h | h | h
  · exact num_no9 _ c h
  · rw [h]; decide
  · rw [h]; decide
  · exact num_no9 _ c h
theorem ap_data9 (a b : ByteArray) : (a ++ b).data.toList = a.data.toList ++ b.data.toList := by simp
theorem nt_pieces {n : Nm} (h : nmB n = true) : piecesB 47 (ntB n) = [n.t, n.l, numB n.s, spanB n.f n.u] := by
  obtain ⟨h1, h2, _⟩ := nm_parts h
  have e1 : (ntB n).data.toList = n.t.data.toList ++ 47 :: (n.l ++ slB ++ numB n.s ++ slB ++ spanB n.f n.u).data.toList := by
    unfold ntB; simp [slB]
  rw [pieces_cons 47 n.t (n.l ++ slB ++ numB n.s ++ slB ++ spanB n.f n.u) _ (phrase_no9 h1) e1]
  rw [pieces_cons 47 n.l (numB n.s ++ slB ++ spanB n.f n.u) _ (lang_no9 h2) (by simp [slB])]
  rw [pieces_cons 47 (numB n.s) (spanB n.f n.u) _ (num_no9 _) (by simp [slB])]
  rw [pieces_one 47 _ (span_no9 _ _)]
theorem num_inj9 {a b : Int} (ha : -9223372036854775808 ≤ a ∧ a ≤ 9223372036854775807) (hb : -9223372036854775808 ≤ b ∧ b ≤ 9223372036854775807) (h : numB a = numB b) : a = b := by
  have h1 := rN_of a ha.1 ha.2
  rw [h, rN_of b hb.1 hb.2] at h1
  exact (Option.some.inj h1).symm
theorem nt_join {s a b c d : ByteArray} (h : piecesB 47 s = [a, b, c, d]) : s = a ++ slB ++ b ++ slB ++ c ++ slB ++ d := by
  have hj := join_pieces 47 s.size s (Nat.le_refl _)
  rw [h] at hj
  rw [← hj]
  exact join4 a b c d (sepB 47)
theorem nt_inj {n m : Nm} (hn : nmB n = true) (hm : nmB m = true) (h : ntB n = ntB m) : n = m := by
  have h1 := nt_pieces hn
  rw [h, nt_pieces hm] at h1
  injection h1 with e1 h1
  injection h1 with e2 h1
  injection h1 with e3 h1
  injection h1 with e4 h1
  obtain ⟨_, _, p1, p2, p3⟩ := nm_parts hn
  obtain ⟨_, _, q1, q2, q3⟩ := nm_parts hm
  have b1 := spB_bd p3
  have b2 := spB_bd q3
  have h2 := pieces_span n.f n.u
  rw [← e4, pieces_span m.f m.u] at h2
  injection h2 with f1 h2
  injection h2 with f2 h2
  injection h2 with f3 h2
  exact Nm.ext' e1.symm e2.symm (num_inj9 (by omega) (by omega) e3.symm) (num_inj9 (by omega) (by omega) f1.symm) (num_inj9 (by omega) (by omega) f3.symm)
open Classical in
noncomputable def rdF (s : ByteArray) : Nm := if h : ∃ n : Nm, nmB n = true ∧ ntB n = s then h.choose else ⟨ByteArray.empty, ByteArray.empty, 0, 0, 0⟩
open Classical in
noncomputable def rdC (s : ByteArray) : Int := if ∃ n : Nm, nmB n = true ∧ ntB n = s then 0 else 6
theorem rd_hit {s : ByteArray} {n : Nm} (h1 : nmB n = true) (h2 : ntB n = s) : rdF s = n ∧ rdC s = 0 := by
  have he : ∃ n : Nm, nmB n = true ∧ ntB n = s := ⟨n, h1, h2⟩
  unfold rdF rdC
  rw [dif_pos he, if_pos he]
  exact ⟨nt_inj he.choose_spec.1 h1 (he.choose_spec.2.trans h2.symm), rfl⟩
theorem rd_miss {s : ByteArray} (h : ∀ n : Nm, nmB n = true → ntB n ≠ s) : rdF s = ⟨ByteArray.empty, ByteArray.empty, 0, 0, 0⟩ ∧ rdC s = 6 := by
  have he : ¬ ∃ n : Nm, nmB n = true ∧ ntB n = s := fun ⟨n, h1, h2⟩ => h n h1 h2
  unfold rdF rdC
  rw [dif_neg he, if_neg he]
  exact ⟨rfl, rfl⟩
/-- What a text's four pieces must be. -/
theorem rd_parts {s a b c d : ByteArray} (h : piecesB 47 s = [a, b, c, d]) {n : Nm} (h1 : nmB n = true) (h2 : ntB n = s) : n.t = a ∧ n.l = b ∧ numB n.s = c ∧ spanB n.f n.u = d := by
  have h3 := nt_pieces h1
  rw [h2, h] at h3
  injection h3 with e1 h3
  injection h3 with e2 h3
  injection h3 with e3 h3
  injection h3 with e4 h3
  exact ⟨e1.symm, e2.symm, e3.symm, e4.symm⟩
end Go.Proofs.YthlajgkelggnkaaGreatDoor
