/-
  Plain facts on the keys of words and phrases.
-/
import Derived.Test.YtjockiedganokaaDoorKeyPlain
import Derived.Test.YtjockiedganokaaDoorSpellPlain
import Derived.Test.YtjockiedganokaaDoorPhrase
import Derived.Test.YtjockiedganokaaDoorBlank
namespace Go.Proofs.YtjockiedganokaaDoor
set_option linter.unusedVariables false
open Go.RowKit

theorem idx_range (xs : List ByteArray) : ∀ (n : Nat) (s : ByteArray), s.size ≤ n → ∀ i ∈ idxL xs s, 0 ≤ i ∧ i < (xs.length : Int) := by
  intro n
  induction n with
  | zero =>
    intro s h i hi
    have := idx_len xs s
    rw [List.eq_nil_of_length_eq_zero (by omega : (idxL xs s).length = 0)] at hi; simp at hi
  | succ n ih =>
    intro s h i hi
    rcases Nat.eq_zero_or_pos (nextN xs s) with h0 | h0
    · unfold idxL at hi; rw [seqL_stop xs s h0] at hi; simp at hi
    · have hl := nextN_le xs s
      rw [idx_step xs s h0, List.mem_cons] at hi
      rcases hi with rfl | hi
      · have hm : letterL xs s ∈ xs := nextN_in xs s h0
        have hp := pos_lt xs _ hm
        unfold lookI; rw [if_pos hm]; omega
      · exact ih (restN xs s) (by rw [rest_size]; omega) i hi
theorem idx_pos (xs : List ByteArray) (s : ByteArray) (h : spellsB xs s = true) (hs : 0 < s.size) : 0 < (idxL xs s).length := by
  rcases Nat.eq_zero_or_pos (nextN xs s) with h0 | h0
  · rw [spells_stop xs s h0 hs] at h; cases h
  · rw [idx_step xs s h0]; simp
/-- The key of a word, of a list of words, of a phrase. -/
def keyW (xs : List ByteArray) (s : ByteArray) : List Int := (idxL xs s).map fun n => 10 + n
def keysW (xs : List ByteArray) (ws : List ByteArray) : List Int := joinK (ws.map (keyW xs))
def keyP (xs : List ByteArray) (s : ByteArray) : List Int := keysW xs (spaceB s)
def canW (xs : List ByteArray) (ws : List ByteArray) : Bool := ws.all (spellsB xs)
def canP (xs : List ByteArray) (s : ByteArray) : Bool := canW xs (spaceB s)
theorem keyW_ge (xs : List ByteArray) (s : ByteArray) : ∀ n ∈ keyW xs s, 10 ≤ n ∧ n < 10 + (xs.length : Int) := by
  intro n hn
  unfold keyW at hn
  rw [List.mem_map] at hn
  obtain ⟨i, hi, rfl⟩ := hn
  have := idx_range xs s.size s (Nat.le_refl _) i hi
  omega
theorem keyW_pos (xs : List ByteArray) (s : ByteArray) : ∀ n ∈ keyW xs s, 0 < n := fun n hn => by have := keyW_ge xs s n hn; omega
theorem joinK_mem : ∀ (l : List (List Int)) (n : Int), n ∈ joinK l → n = 0 ∨ ∃ a ∈ l, n ∈ a
  | [], n, h => by simp [joinK] at h
  | [a], n, h => .inr ⟨a, by simp, h⟩
  | a :: b :: r, n, h => by
    rw [joinK, List.mem_append, List.mem_cons] at h
    rcases h with h | h | h
    · exact .inr ⟨a, by simp, h⟩
    · exact .inl h
    · rcases joinK_mem (b :: r) n h with h | ⟨c, hc, hn⟩
      · exact .inl h
      · exact .inr ⟨c, by simp [List.mem_cons.1 hc], hn⟩
theorem keysW_ok (xs ws : List ByteArray) (n : Int) (h : n ∈ keysW xs ws) : n = 0 ∨ (10 ≤ n ∧ n < 10 + (xs.length : Int)) := by
  rcases joinK_mem _ n h with h | ⟨a, ha, hn⟩
  · exact .inl h
  · rw [List.mem_map] at ha
    obtain ⟨w, _, rfl⟩ := ha
    exact .inr (keyW_ge xs w n hn)
theorem joinK_len : ∀ (l : List (List Int)), (joinK l).length ≤ (l.map List.length).sum + l.length
  | [] => Nat.le_refl _
  | [a] => by simp [joinK]
  | a :: b :: r => by
    have := joinK_len (b :: r)
    rw [joinK, List.length_append, List.length_cons, List.map_cons, List.sum_cons, List.length_cons]
    simp only [List.map_cons, List.sum_cons, List.length_cons] at this ⊢
    omega
theorem keyW_len (xs : List ByteArray) (s : ByteArray) : (keyW xs s).length ≤ s.size := by unfold keyW; rw [List.length_map]; exact idx_len xs s
theorem words_le (ws : List ByteArray) (h : wordsB ws = true) : ∀ x ∈ ws, 1 ≤ x.size ∧ x.size ≤ 16 := by
  intro x hx
  unfold wordsB at h; rw [List.all_eq_true] at h
  have := h x hx
  unfold wordB at this; simp at this; exact ⟨this.1.1, this.1.2⟩
theorem sum_le (xs : List ByteArray) : ∀ (ws : List ByteArray), (∀ x ∈ ws, x.size ≤ 16) → ((ws.map (keyW xs)).map List.length).sum ≤ 16 * ws.length
  | [], _ => by simp
  | a :: r, h => by
    have h1 := keyW_len xs a
    have h2 := h a (by simp)
    have h3 := sum_le xs r (fun x hx => h x (by simp [hx]))
    simp only [List.map_cons, List.sum_cons, List.length_cons] at *
    omega
theorem keysW_len (xs ws : List ByteArray) (h : ∀ x ∈ ws, x.size ≤ 16) : (keysW xs ws).length ≤ 17 * ws.length := by
  have h1 := joinK_len (ws.map (keyW xs))
  have h2 := sum_le xs ws h
  unfold keysW
  rw [List.length_map] at h1
  omega
theorem phrase_parts (s : ByteArray) (h : phraseB s = true) : wordsB (spaceB s) = true ∧ (spaceB s).length ≤ 8 ∧ 0 < (spaceB s).length := by
  unfold phraseB at h; rw [Bool.and_eq_true, decide_eq_true_eq] at h
  exact ⟨h.1, h.2, by unfold spaceB; rw [← rest_zero]; exact rest_pos _ _ _⟩
theorem keyP_len (xs : List ByteArray) (s : ByteArray) (h : phraseB s = true) : (keyP xs s).length ≤ 136 := by
  have hp := phrase_parts s h
  have := keysW_len xs (spaceB s) (fun x hx => (words_le _ hp.1 x hx).2)
  unfold keyP; omega
theorem joinK_head (a : List Int) (r : List (List Int)) (x : Int) (h : a[0]? = some x) : (joinK (a :: r))[0]? = some x := by
  cases r with
  | nil => exact h
  | cons b r =>
    rw [joinK]
    have := (List.getElem?_eq_some_iff.1 h).1
    rw [List.getElem?_append_left this]; exact h
/-- The first letter of a phrase that can be written. -/
theorem key_first (xs : List ByteArray) (s : ByteArray) (h : phraseB s = true) (hc : canP xs s = true) : ∃ (w : ByteArray) (i : Int), (spaceB s)[0]? = some w ∧ (idxL xs w)[0]? = some i ∧ (keyP xs s)[0]? = some (10 + i) ∧ 0 ≤ i ∧ i < (xs.length : Int) := by
  have hp := phrase_parts s h
  obtain ⟨w, r, hw⟩ : ∃ w r, spaceB s = w :: r := by
    cases e : spaceB s with
    | nil => rw [e] at hp; simp at hp
    | cons w r => exact ⟨w, r, rfl⟩
  have hm : w ∈ spaceB s := by rw [hw]; simp
  have hsz := words_le _ hp.1 w hm
  have hsp : spellsB xs w = true := by unfold canP canW at hc; rw [List.all_eq_true] at hc; exact hc w hm
  have hpos := idx_pos xs w hsp hsz.1
  obtain ⟨i, hi⟩ : ∃ i, (idxL xs w)[0]? = some i := ⟨_, List.getElem?_eq_getElem hpos⟩
  have hr := idx_range xs w.size w (Nat.le_refl _) i (List.mem_of_getElem? hi)
  refine ⟨w, i, by rw [hw]; rfl, hi, ?_, hr.1, hr.2⟩
  unfold keyP keysW
  rw [hw, List.map_cons]
  refine joinK_head _ _ _ ?_
  unfold keyW
  rw [List.getElem?_map, hi]; rfl
theorem canW_zero (xs ws : List ByteArray) : canW xs (ws.take 0) = true := rfl
theorem canW_step (xs ws : List ByteArray) (k : Nat) (x : ByteArray) (h : ws[k]? = some x) (ha : canW xs (ws.take k) = true) (hc : spellsB xs x = true) : canW xs (ws.take (k + 1)) = true := by
  have hk : k < ws.length := (List.getElem?_eq_some_iff.1 h).1
  have hx : ws[k] = x := (List.getElem?_eq_some_iff.1 h).2
  rw [List.take_succ_eq_append_getElem hk]; unfold canW at *; simp [List.all_append, ha, hx, hc]
theorem canW_stop (xs ws : List ByteArray) (k : Nat) (x : ByteArray) (h : ws[k]? = some x) (hc : spellsB xs x = false) : canW xs ws = false := by
  unfold canW; rw [List.all_eq_false]
  exact ⟨x, List.mem_of_getElem? h, by simp [hc]⟩
theorem keysW_step (xs ws : List ByteArray) (k : Nat) (x : ByteArray) (hk : 0 < k) (h : ws[k]? = some x) : keysW xs (ws.take (k + 1)) = keysW xs (ws.take k) ++ 0 :: keyW xs x := by
  have hl : k < ws.length := (List.getElem?_eq_some_iff.1 h).1
  have hx : ws[k] = x := (List.getElem?_eq_some_iff.1 h).2
  unfold keysW
  rw [List.take_succ_eq_append_getElem hl, hx, List.map_append]
  exact joinK_snoc _ _ (by intro e; have h2 := congrArg List.length e; rw [List.length_map, List.length_take, List.length_nil] at h2; omega)
theorem keysW_first (xs ws : List ByteArray) (x : ByteArray) (h : ws[0]? = some x) : keysW xs (ws.take 1) = keyW xs x := by
  have hl : 0 < ws.length := (List.getElem?_eq_some_iff.1 h).1
  have hx : ws[0] = x := (List.getElem?_eq_some_iff.1 h).2
  unfold keysW
  rw [List.take_succ_eq_append_getElem hl, hx]; rfl

/-- The text of which a key is. -/
def pickK (xs : List ByteArray) (i : Int) : ByteArray := (xs[i.toNat]?).getD ByteArray.empty
def chK (xs : List ByteArray) (n : Int) : List UInt8 := if n = 0 then [32] else (pickK xs (n - 10)).data.toList
def textK (xs : List ByteArray) (key : List Int) : List UInt8 := key.flatMap (chK xs)
theorem parts_back (xs : List ByteArray) (s : ByteArray) : (letterL xs s).data.toList ++ (restN xs s).data.toList = s.data.toList := by
  have hl := nextN_le xs s
  unfold letterL restN
  simp only [ByteArray.data_extract, Array.toList_extract, List.extract_eq_take_drop]
  have hsz : s.data.toList.length = s.size := size_list s
  simp only [List.drop_zero, Nat.sub_zero]
  rw [List.take_of_length_le (l := s.data.toList.drop (nextN xs s)) (by rw [List.length_drop]; omega)]
  exact List.take_append_drop _ _
theorem text_word (xs : List ByteArray) : ∀ (n : Nat) (s : ByteArray), s.size ≤ n → spellsB xs s = true → textK xs (keyW xs s) = s.data.toList := by
  intro n
  induction n with
  | zero =>
    intro s h hsp
    unfold keyW; rw [idx_end xs s (by omega)]
    have hsz : s.data.toList.length = s.size := size_list s
    rw [List.eq_nil_of_length_eq_zero (by omega : s.data.toList.length = 0)]; rfl
  | succ n ih =>
    intro s h hsp
    rcases Nat.eq_zero_or_pos s.size with hz | hz
    · unfold keyW; rw [idx_end xs s hz]
      have hsz : s.data.toList.length = s.size := size_list s
      rw [List.eq_nil_of_length_eq_zero (by omega : s.data.toList.length = 0)]; rfl
    · rcases Nat.eq_zero_or_pos (nextN xs s) with h0 | h0
      · rw [spells_stop xs s h0 hz] at hsp; cases hsp
      · have hl := nextN_le xs s
        have hm : letterL xs s ∈ xs := nextN_in xs s h0
        have hp := pos_lt xs _ hm
        have hr := ih (restN xs s) (by rw [rest_size]; omega) (by rw [← spells_step xs s h0]; exact hsp)
        have hk : keyW xs s = (10 + lookI xs (letterL xs s)) :: keyW xs (restN xs s) := by unfold keyW; rw [idx_step xs s h0]; rfl
        rw [hk]
        have hlk : lookI xs (letterL xs s) = (posL xs (letterL xs s) : Int) := by unfold lookI; rw [if_pos hm]
        have hch : chK xs (10 + lookI xs (letterL xs s)) = (letterL xs s).data.toList := by
          unfold chK
          rw [hlk, if_neg (by omega), show (10 + (posL xs (letterL xs s) : Int) - 10) = (posL xs (letterL xs s) : Int) by omega]
          unfold pickK
          rw [Int.toNat_natCast, hp.2]; rfl
        unfold textK at *
        rw [List.flatMap_cons, hr, hch]
        exact parts_back xs s
theorem text_join (xs : List ByteArray) : ∀ (ws : List ByteArray), canW xs ws = true → textK xs (keysW xs ws) = joinL (ws.map (·.data.toList))
  | [], _ => by simp [keysW, joinK, textK, joinL, Lib.join, List.intercalate]
  | [a], h => by
    have ha : spellsB xs a = true := by unfold canW at h; simpa using h
    show textK xs (keyW xs a) = joinL [a.data.toList]
    rw [text_word xs a.size a (Nat.le_refl _) ha, joinL_one]
  | a :: b :: r, h => by
    have h' : spellsB xs a = true ∧ canW xs (b :: r) = true := by unfold canW at *; rw [List.all_cons, Bool.and_eq_true] at h; exact h
    have hr := text_join xs (b :: r) h'.2
    have hk : keysW xs (a :: b :: r) = keyW xs a ++ 0 :: keysW xs (b :: r) := rfl
    rw [hk, List.map_cons, List.map_cons, joinL_cons]
    rw [List.map_cons] at hr
    rw [← hr]
    unfold textK
    rw [List.flatMap_append, List.flatMap_cons]
    have ha := text_word xs a.size a (Nat.le_refl _) h'.1
    unfold textK at ha
    rw [ha]
    have h0 : chK xs 0 = [32] := rfl
    rw [h0]; rfl
theorem key_text (xs : List ByteArray) (s : ByteArray) (hc : canP xs s = true) : textK xs (keyP xs s) = s.data.toList := by
  unfold keyP
  rw [text_join xs _ hc, ← joinB_data]
  exact congrArg (fun b : ByteArray => b.data.toList) (join_bl s.size s (Nat.le_refl _))
theorem key_inj (xs : List ByteArray) (s t : ByteArray) (hs : canP xs s = true) (ht : canP xs t = true) (h : keyP xs s = keyP xs t) : s = t := by
  have h1 := key_text xs s hs
  rw [h, key_text xs t ht] at h1
  exact ByteArray.ext (Array.toList_inj.1 h1.symm)
end Go.Proofs.YtjockiedganokaaDoor
