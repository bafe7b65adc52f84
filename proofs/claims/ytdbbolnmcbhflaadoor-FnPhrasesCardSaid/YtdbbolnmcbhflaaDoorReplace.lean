/-
  The contracts of spec.ReplaceWord and impl.ReplaceWord.
-/
import Derived.Test.YtdbbolnmcbhflaaDoorJoin
import Derived.Test.YtdbbolnmcbhflaaDoorWordsOf
namespace Go.Proofs.YtdbbolnmcbhflaaDoor
set_option linter.unusedVariables false
open Go.RowKit

def swap (old new : ByteArray) (x : ByteArray) : ByteArray := if x = old then new else x
def swapL (old new : ByteArray) (xs : List ByteArray) : List ByteArray := xs.map (swap old new)
def hasB (old : ByteArray) (xs : List ByteArray) : Bool := xs.any (fun x => decide (x = old))
theorem hasB_zero (old : ByteArray) (xs : List ByteArray) : hasB old (xs.take 0) = false := rfl
theorem hasB_hit (old : ByteArray) (xs : List ByteArray) (k : Nat) (x : ByteArray) (h : xs[k]? = some x) (hx : x = old) : hasB old (xs.take (k + 1)) = true := by
  have hl := (List.getElem?_eq_some_iff.1 h).1
  have he : xs[k] = x := (List.getElem?_eq_some_iff.1 h).2
  rw [List.take_succ_eq_append_getElem hl]; unfold hasB; simp [List.any_append, he, hx]
theorem hasB_miss (old : ByteArray) (xs : List ByteArray) (k : Nat) (x : ByteArray) (h : xs[k]? = some x) (hx : ¬ x = old) : hasB old (xs.take (k + 1)) = hasB old (xs.take k) := by
  have hl := (List.getElem?_eq_some_iff.1 h).1
  have he : xs[k] = x := (List.getElem?_eq_some_iff.1 h).2
  rw [List.take_succ_eq_append_getElem hl]; unfold hasB; simp [List.any_append, he, hx]
theorem swapL_step (old new : ByteArray) (xs : List ByteArray) (k : Nat) (x : ByteArray) (h : xs[k]? = some x) : swapL old new (xs.take (k + 1)) = swapL old new (xs.take k) ++ [swap old new x] := by
  have hl := (List.getElem?_eq_some_iff.1 h).1
  have he : xs[k] = x := (List.getElem?_eq_some_iff.1 h).2
  rw [List.take_succ_eq_append_getElem hl, he]; simp [swapL]
/-- The first k texts swapped, the rest as they were. -/
def mixV (old new : ByteArray) (xs : List ByteArray) (k : Nat) : List Value := strV (swapL old new (xs.take k) ++ xs.drop k)
theorem mixV_zero (old new : ByteArray) (xs : List ByteArray) : mixV old new xs 0 = strV xs := by simp [mixV, swapL]
theorem mixV_all (old new : ByteArray) (xs : List ByteArray) (n : Nat) (hn : n = xs.length) : mixV old new xs n = strV (swapL old new xs) := by
  unfold mixV; rw [List.take_of_length_le (by omega), List.drop_of_length_le (by omega), List.append_nil]
theorem swapL_len (old new : ByteArray) (xs : List ByteArray) : (swapL old new xs).length = xs.length := by simp [swapL]
theorem mixV_at (old new : ByteArray) (xs : List ByteArray) (k : Nat) (x : ByteArray) (h : xs[k]? = some x) : (mixV old new xs k)[k]? = some (.string x) := by
  have hl := (List.getElem?_eq_some_iff.1 h).1
  have he : xs[k] = x := (List.getElem?_eq_some_iff.1 h).2
  apply strV_at
  rw [List.getElem?_append_right (by rw [swapL_len, List.length_take]; omega), swapL_len, List.length_take, List.getElem?_drop, show k + (k - min k xs.length) = k by omega]
  exact h
theorem mixV_keep (old new : ByteArray) (xs : List ByteArray) (k : Nat) (x : ByteArray) (h : xs[k]? = some x) (hx : ¬ x = old) : mixV old new xs (k + 1) = mixV old new xs k := by
  have hl := (List.getElem?_eq_some_iff.1 h).1
  have he : xs[k] = x := (List.getElem?_eq_some_iff.1 h).2
  unfold mixV
  rw [swapL_step old new xs k x h, List.append_assoc, List.drop_eq_getElem_cons hl, he]
  simp [swap, hx]
theorem mixV_set (old new : ByteArray) (xs : List ByteArray) (k : Nat) (x : ByteArray) (h : xs[k]? = some x) (hx : x = old) : (mixV old new xs k).set k (.string new) = mixV old new xs (k + 1) := by
  have hl := (List.getElem?_eq_some_iff.1 h).1
  have he : xs[k] = x := (List.getElem?_eq_some_iff.1 h).2
  unfold mixV strV
  rw [swapL_step old new xs k x h, List.append_assoc, List.drop_eq_getElem_cons hl, he, List.map_append, List.map_append, List.set_append_right _ _ (by rw [List.length_map, swapL_len, List.length_take]; omega)]
  rw [List.length_map, swapL_len, List.length_take, show k - min k xs.length = 0 by omega, List.map_cons, List.set_cons_zero]
  simp [swap, hx]
theorem eqB_yes (x old : ByteArray) (h : x = old) : (x.toList == old.toList) = true := by rw [h]; exact beq_self_eq_true _
theorem eqB_no (x old : ByteArray) (h : ¬ x = old) : (x.toList == old.toList) = false := by
  rw [beq_eq_false_iff_ne]
  intro e
  rw [ByteArray.toList_eq, ByteArray.toList_eq] at e
  exact h (ByteArray.ext (Array.toList_inj.1 e))
theorem space_word (s x : ByteArray) (h : wordsB (spaceB s) = true) (hx : x ∈ spaceB s) : wordB x = true := by
  unfold wordsB at h; rw [List.all_eq_true] at h; exact h x hx

/-- What ReplaceWord returns for a phrase and two words. -/
def replV (old new : ByteArray) (xs : List ByteArray) : Value := if hasB old xs then .tuple #[.string (joinB (swapL old new xs)), .int .i64 0] else .tuple #[.string ByteArray.empty, .int .i64 4]
theorem replV_yes (old new : ByteArray) (xs : List ByteArray) (h : hasB old xs = true) : replV old new xs = .tuple #[.string (joinB (swapL old new xs)), .int .i64 0] := by unfold replV; rw [if_pos h]
theorem replV_no (old new : ByteArray) (xs : List ByteArray) (h : hasB old xs = false) : replV old new xs = .tuple #[.string ByteArray.empty, .int .i64 4] := by unfold replV; rw [if_neg (by simp [h])]

set_option maxHeartbeats 1000000 in
set_option maxRecDepth 100000 in
/-- The loop of spec.ReplaceWord, from the words on. -/
theorem cReplace_spec_ok (s old new : ByteArray) (w : World) (hs : s.size ≤ 1073741824) (ho : old.size ≤ maxLen) (hw : new.size ≤ maxLen) (h : phraseB s = true) (h1 : wordB old = true) (h2 : wordB new = true) :
    Calls Tryd.prog 15 #[.string s, .string old, .string new] w fun e w' =>
      e = .returned (replV old new (spaceB s)) ∧ Below w.heap.size w w' := by
  obtain ⟨i0, hi0, hz0, hz1, hz2⟩ := info_parts info_str
  have hp := phraseB_parts s h
  have hpos := space_pos s
  have hc := cPhrase_ok s
  rw [decide_eq_true hp.2] at hc
  have HC := Lib.hid hc
  have H := Lib.hid hp.1
  have hl := hp.2
  have HW := Lib.hid (fun x hx => word_size x (space_word s x hp.1 hx))
  have hnew := (word_size new h2).2
  have h1' := h1
  have h2' := h2
  clear h hp hc
  obtain ⟨xs, hxs⟩ : ∃ xs, xs = spaceB s := ⟨_, rfl⟩
  rw [← hxs] at HC H HW hl hpos ⊢
  clear hxs
  obtain ⟨n, hn⟩ : ∃ n, n = xs.length := ⟨_, rfl⟩
  rw [← hn] at HC hl hpos
  have HN := Lib.hid hn
  clear hn
  have C1 := Lib.hid (fun W => cIsWord_spec old W ho)
  have C2 := Lib.hid (fun W => cIsWord_spec new W hw)
  rw [h1] at C1
  rw [h2] at C2
  clear h1 h2 h1' h2'
  go_enter Tryd.func15, Tryd.ntmps15
  go_wp2_with fail
  refine (HC.out _ hs H.out).mono ?_
  rintro e w1 ⟨v, rfl, hown, hb⟩
  obtain ⟨g, cap, rfl, hg1, hg2⟩ := World.ownsRow.form hown hpos
  have K0 : Hid (∀ j x, xs[j]? = some x → w1.cell? ⟨g, j, none⟩ = some (.string x)) := Lib.hid (fun j x hx => (hown.cellAt j (by have := (List.getElem?_eq_some_iff.1 hx).1; have := HN.out; omega)).trans (strV_at _ _ _ hx))
  clear hown
  go_wp2_with fail
  refine (C1.out _).mono ?_
  rintro e w' ⟨rfl, rfl⟩
  go_wp2_with fail
  refine (C2.out _).mono ?_
  rintro e w' ⟨rfl, rfl⟩
  go_wp2_with fail
  have hbig : (8 : Nat) ≤ maxLen := by unfold maxLen; omega
  go_loopw [10, 11, 12] (fun f o i wr => ∃ (k : Nat) (v : Value), k ≤ n ∧ i = .int .i64 k ∧ f = .bool (hasB old (xs.take k)) ∧ o = v ∧ wr.ownsRow w1.heap.size 9 1 v k (strV (swapL old new (xs.take k))) ∧ Below w1.heap.size w1 wr) (fun _ _ i _ => n - (intOf i).toNat)
  case atStart => exact ⟨0, _, Nat.zero_le _, rfl, rfl, rfl, World.ownsRow_lit (e := 9) (base := w1.heap.size) (size := 1) w1 #[] 0 (Nat.le_refl _) (by decide) rfl, (Below.refl _ _).alloc (Nat.le_refl _) _⟩
  case round =>
    obtain ⟨k, v, hk, rfl, rfl, rfl, hown, hbw⟩ := hrel
    by_cases hlt : k < n
    · obtain ⟨x, hx⟩ : ∃ x, xs[k]? = some x := ⟨xs[k]'(by have := HN.out; omega), List.getElem?_eq_getElem _⟩
      have hcx : wr.cell? ⟨g, k, none⟩ = some (.string x) := (hbw.cell hg2).trans (K0.out k x hx)
      have HX := Lib.hid hx
      clear hx
      by_cases he : x = old
      · have HE := Lib.hid he
        have hd := eqB_yes x old he
        have HF := Lib.hid (hasB_hit old xs k x HX.out he)
        clear he
        go_wp2_with (at_builtin; refine wpList_append_own _ rfl (.tmp 43) (.tmp 45) 25 rfl w1.heap.size 9 i0 _ 1 16 Tryd.underlying25 hi0 hz0 hz1 hz2 rfl (by decide) _ _ _ rfl (hown.alloc _) ⟨wr.heap.size, 0, none⟩ 1 1 [.string new] rfl rfl ?c1 ?c2 ?c3 ?c4 ?c5 ?_)
        case c1 => exact one_cell' _ _ _ (new_one _ _ _)
        case c2 => intro u hu; simp at hu; subst hu; rfl
        case c3 => unfold maxLen; omega
        case c4 => omega
        case c5 => have := hbw.size; simp; omega
        intro v' w2 hown1 hgrow1 _
        rw [strV_snoc, show swapL old new (xs.take k) ++ [new] = swapL old new (xs.take (k + 1)) from by rw [swapL_step old new xs k x HX.out]; simp [swap, HE.out]] at hown1
        have hb1 : Below w1.heap.size w1 w2 := (hbw.alloc hbw.size _).grown hgrow1 (by have := hbw.size; simp; omega) (fun y hy => (hown.lt y hy).1)
        go_wp2
        go_roundw
        case rel => exact ⟨k + 1, v', by omega, by go_num, by rw [HF.out], rfl, hown1, hb1⟩
        case measure => simp [intOf]; omega
      · have HE := Lib.hid he
        have hd := eqB_no x old he
        have HF := Lib.hid (hasB_miss old xs k x HX.out he)
        clear he
        go_wp2_with (at_builtin; refine wpList_append_own _ rfl (.tmp 47) (.tmp 52) 25 rfl w1.heap.size 9 i0 _ 1 16 Tryd.underlying25 hi0 hz0 hz1 hz2 rfl (by decide) _ _ _ rfl (hown.alloc _) ⟨wr.heap.size, 0, none⟩ 1 1 [.string x] rfl rfl ?d1 ?d2 ?d3 ?d4 ?d5 ?_)
        case d1 => exact one_cell' _ _ _ (new_one _ _ _)
        case d2 => intro u hu; simp at hu; subst hu; rfl
        case d3 => unfold maxLen; omega
        case d4 => omega
        case d5 => have := hbw.size; simp; omega
        intro v' w2 hown1 hgrow1 _
        rw [strV_snoc, show swapL old new (xs.take k) ++ [x] = swapL old new (xs.take (k + 1)) from by rw [swapL_step old new xs k x HX.out]; simp [swap, HE.out]] at hown1
        have hb1 : Below w1.heap.size w1 w2 := (hbw.alloc hbw.size _).grown hgrow1 (by have := hbw.size; simp; omega) (fun y hy => (hown.lt y hy).1)
        go_wp2
        go_roundw
        case rel => exact ⟨k + 1, v', by omega, by go_num, by rw [HF.out], rfl, hown1, hb1⟩
        case measure => simp [intOf]; omega
    · obtain rfl : k = n := by omega
      have hall : xs.take k = xs := List.take_of_length_le (by have := HN.out; omega)
      rw [hall] at hown
      have hbb := hb.trans (hbw.mono hb.size)
      cases hf : hasB old xs
      · have hf' : hasB old (xs.take k) = false := by rw [hall]; exact hf
        have HR := Lib.hid (replV_no old new xs hf)
        clear hall hf
        go_wp2
        go_ret2
        exact ⟨by rw [HR.out]; rfl, hbb⟩
      · have hf' : hasB old (xs.take k) = true := by rw [hall]; exact hf
        have HR := Lib.hid (replV_yes old new xs hf)
        clear hall hf
        obtain ⟨g2, cap2, rfl, hg3, hg4⟩ := World.ownsRow.form hown hpos
        have HJ := Lib.hid (cWords g2 0 cap2 k (swapL old new xs) wr (by rw [swapL_len]; exact HN.out) (by omega) (by
          intro y hy
          unfold swapL at hy
          rw [List.mem_map] at hy
          obtain ⟨z, hz, rfl⟩ := hy
          unfold swap
          have := HW.out z hz
          split <;> omega) (by
          intro j y hy
          rw [Nat.zero_add]
          exact (hown.cellAt j (by have := (List.getElem?_eq_some_iff.1 hy).1; rw [swapL_len] at this; have := HN.out; omega)).trans (strV_at _ _ _ hy)))
        go_wp2_with fail
        refine HJ.out.mono ?_
        rintro e w' ⟨rfl, rfl⟩
        go_wp2_with fail
        go_ret2
        exact ⟨by rw [HR.out]; rfl, hbb⟩

theorem cReplace_spec_bad (s old new : ByteArray) (w : World) (hs : s.size ≤ 1073741824) (ho : old.size ≤ maxLen) (hw : new.size ≤ maxLen) (h : (phraseB s && (wordB old && wordB new)) = false) :
    Calls Tryd.prog 15 #[.string s, .string old, .string new] w fun e w' => e = .returned (.tuple #[.string ByteArray.empty, .int .i64 1]) ∧ Below w.heap.size w w' := by
  have C1 := Lib.hid (fun W => cIsWord_spec old W ho)
  have C2 := Lib.hid (fun W => cIsWord_spec new W hw)
  cases hw1 : wordsB (spaceB s)
  · have H := Lib.hid hw1
    clear h hw1 C1 C2
    go_enter Tryd.func15, Tryd.ntmps15
    go_wp2_with fail
    refine (cPhrase_bad s _ hs H.out).mono ?_
    rintro e w1 ⟨rfl, hb⟩
    go_wp2_with fail
    go_ret2
    exact ⟨rfl, hb⟩
  · have HC := Lib.hid (cPhrase_ok s)
    have H := Lib.hid hw1
    have hp := phrase_ok s hw1
    rw [← hp] at HC
    clear hw1 hp
    cases h1 : phraseB s
    · rw [h1] at HC
      clear h h1 C1 C2
      go_enter Tryd.func15, Tryd.ntmps15
      go_wp2_with fail
      refine (HC.out _ hs H.out).mono ?_
      rintro e w1 ⟨v, rfl, hown, hb⟩
      go_wp2_with fail
      go_ret2
      exact ⟨rfl, hb⟩
    · rw [h1] at HC h
      cases h2 : wordB old
      · rw [h2] at C1
        clear h h1 h2 C2
        go_enter Tryd.func15, Tryd.ntmps15
        go_wp2_with fail
        refine (HC.out _ hs H.out).mono ?_
        rintro e w1 ⟨v, rfl, hown, hb⟩
        clear hown
        go_wp2_with fail
        refine (C1.out _).mono ?_
        rintro e w' ⟨rfl, rfl⟩
        go_wp2_with fail
        go_ret2
        exact ⟨rfl, hb⟩
      · rw [h2] at C1 h
        have h3 : wordB new = false := by simpa using h
        rw [h3] at C2
        clear h h1 h2 h3
        go_enter Tryd.func15, Tryd.ntmps15
        go_wp2_with fail
        refine (HC.out _ hs H.out).mono ?_
        rintro e w1 ⟨v, rfl, hown, hb⟩
        clear hown
        go_wp2_with fail
        refine (C1.out _).mono ?_
        rintro e w' ⟨rfl, rfl⟩
        go_wp2_with fail
        refine (C2.out _).mono ?_
        rintro e w' ⟨rfl, rfl⟩
        go_wp2_with fail
        go_ret2
        exact ⟨rfl, hb⟩
end Go.Proofs.YtdbbolnmcbhflaaDoor
