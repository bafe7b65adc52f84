/-
  The contracts of the functions of phrases for any given values, and their mathematics.
-/
import Derived.Test.YtdbbolnmcbhflaaDoorJoinPhraseD
import Derived.Test.YtdbbolnmcbhflaaDoorDrawRep
import Derived.Test.YtdbbolnmcbhflaaDoorReplaceImpl
import Derived.Test.YtdbbolnmcbhflaaDoorLawAlphaTexts
namespace Go.Proofs.YtdbbolnmcbhflaaDoor
set_option linter.unusedVariables false
open Go.RowKit

def joinG (xs : List ByteArray) : Bool := joinOk xs && decide (0 < xs.length)
def joinT (xs : List ByteArray) : ByteArray := if joinG xs then joinB xs else ByteArray.empty
def joinC (xs : List ByteArray) : Int := if joinG xs then 0 else 1
def phraseL (s : ByteArray) : List ByteArray := if phraseB s then spaceB s else []
def phraseC (s : ByteArray) : Int := if phraseB s then 0 else 1
def repG (s old new : ByteArray) : Bool := phraseB s && (wordB old && wordB new)
def repH (s old new : ByteArray) : Bool := repG s old new && hasB old (spaceB s)
def repT (s old new : ByteArray) : ByteArray := if repH s old new then joinB (swapL old new (spaceB s)) else ByteArray.empty
def repC (s old new : ByteArray) : Int := if repH s old new then 0 else if repG s old new then 4 else 1

theorem word_low (x : ByteArray) (h : wordB x = true) : lowAll x.data.toList = true := by
  unfold wordB at h; rw [Bool.and_eq_true] at h; exact h.2
theorem words_back (xs : List ByteArray) (h : wordsB xs = true) (hp : 0 < xs.length) : spaceB (joinB xs) = xs := by
  cases xs with
  | nil => simp at hp
  | cons x l => exact bl_join x l (fun y hy => low_no y (word_low y (words_mem _ h y hy)))
theorem joinG_parts {xs : List ByteArray} (h : joinG xs = true) : wordsB xs = true ∧ xs.length ≤ 8 ∧ 0 < xs.length := by
  unfold joinG joinOk at h; simp at h; exact ⟨h.1.1, h.1.2, h.2⟩
theorem joinG_of {xs : List ByteArray} (h : wordsB xs = true) (h8 : xs.length ≤ 8) (hp : 0 < xs.length) : joinG xs = true := by
  unfold joinG joinOk; simp [h, h8, hp]
theorem joinG_back {xs : List ByteArray} (h : joinG xs = true) : spaceB (joinB xs) = xs := words_back xs (joinG_parts h).1 (joinG_parts h).2.2
theorem joinG_phrase {xs : List ByteArray} (h : joinG xs = true) : phraseB (joinB xs) = true := by
  unfold phraseB; rw [joinG_back h, (joinG_parts h).1, decide_eq_true (joinG_parts h).2.1]; rfl
theorem joinG_size {xs : List ByteArray} (h : joinG xs = true) : (joinB xs).size ≤ 520 := by
  have hp := joinG_parts h
  have := joinB_size xs (fun x hx => by have := (word_size x (words_mem xs hp.1 x hx)).2; omega)
  omega
theorem phrase_joinG {s : ByteArray} (h : phraseB s = true) : joinG (spaceB s) = true := joinG_of (phraseB_parts s h).1 (phraseB_parts s h).2 (space_pos s)
theorem swap_word {old new : ByteArray} {xs : List ByteArray} (h : wordsB xs = true) (hn : wordB new = true) : wordsB (swapL old new xs) = true := by
  unfold wordsB swapL
  rw [List.all_eq_true]
  intro y hy
  rw [List.mem_map] at hy
  obtain ⟨x, hx, rfl⟩ := hy
  unfold swap
  split
  · exact hn
  · exact words_mem xs h x hx
theorem swap_has {old new : ByteArray} {xs : List ByteArray} (h : hasB old xs = true) : hasB new (swapL old new xs) = true := by
  unfold hasB at h ⊢
  rw [List.any_eq_true] at h ⊢
  obtain ⟨x, hx, he⟩ := h
  exact ⟨new, by unfold swapL; rw [List.mem_map]; exact ⟨x, hx, by unfold swap; rw [if_pos (by simpa using he)]⟩, by simp⟩
theorem swap_hasnt {old new : ByteArray} {xs : List ByteArray} (h : ¬ old = new) : hasB old (swapL old new xs) = false := by
  unfold hasB
  rw [List.any_eq_false]
  intro y hy
  unfold swapL at hy
  rw [List.mem_map] at hy
  obtain ⟨x, hx, rfl⟩ := hy
  unfold swap
  split
  · simpa using fun e : new = old => h e.symm
  · simpa using ‹_›
theorem repG_parts {s old new : ByteArray} (h : repG s old new = true) : phraseB s = true ∧ wordB old = true ∧ wordB new = true := by
  unfold repG at h; simp at h; exact ⟨h.1, h.2.1, h.2.2⟩
theorem repH_parts {s old new : ByteArray} (h : repH s old new = true) : repG s old new = true ∧ hasB old (spaceB s) = true := by
  unfold repH at h; simpa using h
theorem repH_join {s old new : ByteArray} (h : repH s old new = true) : joinG (swapL old new (spaceB s)) = true := by
  have h1 := repG_parts (repH_parts h).1
  have h2 := phraseB_parts s h1.1
  exact joinG_of (swap_word h2.1 h1.2.2) (by rw [swapL_len]; exact h2.2) (by rw [swapL_len]; exact space_pos s)
theorem repT_yes {s old new : ByteArray} (h : repH s old new = true) : repT s old new = joinB (swapL old new (spaceB s)) ∧ repC s old new = 0 := by
  unfold repT repC; rw [if_pos h, if_pos h]; exact ⟨rfl, rfl⟩
theorem repC_no {s old new : ByteArray} (h : repH s old new = false) : (repC s old new == 0) = false := by
  unfold repC; rw [h]; cases repG s old new <;> rfl
theorem joinC_no {xs : List ByteArray} (h : joinG xs = false) : (joinC xs == 0) = false := by unfold joinC; rw [h]; rfl
theorem joinT_yes {xs : List ByteArray} (h : joinG xs = true) : joinT xs = joinB xs ∧ joinC xs = 0 := by unfold joinT joinC; rw [if_pos h, if_pos h]; exact ⟨rfl, rfl⟩

/-- What WordsOf gives for any text. -/
def WordsPost (s : ByteArray) (w : World) (e : Ending) (w' : World) : Prop := ∃ (A : Option Addr) (n c : Nat), n ≤ 8 ∧ n ≤ c ∧ e = .returned (.tuple #[.slice A n c, .int .i64 (phraseC s)]) ∧ TextAt w' w'.heap.size A n (phraseL s) ∧ Below w.heap.size w w'
theorem tWordsOf_impl (s : ByteArray) (w : World) (hs : s.size ≤ 1073741824) (hsh : w.ShapedOpen Tryd.prog) :
    Calls Tryd.prog 8 #[.string s] w (WordsPost s w) := by
  cases h : phraseB s
  · refine (cWordsOf_impl_bad s w hs hsh h).mono ?_
    rintro e w' ⟨rfl, hb⟩
    exact ⟨none, 0, 0, by omega, by omega, by rw [phraseC, h]; rfl, by rw [phraseL, h]; exact ⟨rfl, fun hp => absurd hp (by omega)⟩, hb⟩
  · refine (cWordsOf_impl_ok s w hs hsh h).mono ?_
    rintro e w' ⟨g, rfl, hg, hgl, hO, hb⟩
    exact ⟨_, _, _, (phraseB_parts s h).2, Nat.le_refl _, by rw [phraseC, h]; rfl, by rw [phraseL, h]; exact rowText hgl hO, hb⟩
theorem tWordsOf_spec (s : ByteArray) (w : World) (hs : s.size ≤ 1073741824) :
    Calls Tryd.prog 9 #[.string s] w (WordsPost s w) := by
  cases h : phraseB s
  · refine (cWordsOf_spec_bad s w hs h).mono ?_
    rintro e w' ⟨rfl, hb⟩
    exact ⟨none, 0, 0, by omega, by omega, by rw [phraseC, h]; rfl, by rw [phraseL, h]; exact ⟨rfl, fun hp => absurd hp (by omega)⟩, hb⟩
  · refine (cWordsOf_spec_ok s w hs h).mono ?_
    rintro e w' ⟨v, rfl, hO, hb⟩
    obtain ⟨g, c, rfl, hg, hgl⟩ := World.ownsRow.form hO (space_pos s)
    exact ⟨_, _, _, (phraseB_parts s h).2, capLe hO, by rw [phraseC, h]; rfl, by rw [phraseL, h]; exact rowText hgl hO, hb⟩
theorem joinV_G (xs : List ByteArray) (h : 0 < xs.length) : joinV xs = .tuple #[.string (joinT xs), .int .i64 (joinC xs)] := by
  unfold joinV joinT joinC joinG; rw [decide_eq_true h, Bool.and_true]; cases joinOk xs <;> rfl
theorem tJP_spec (A : Option Addr) (n c : Nat) (xs : List ByteArray) (w : World) (hn : n ≤ 1048576) (hsz : ∀ x ∈ xs, x.size ≤ maxLen) (h : TextAt w w.heap.size A n xs) :
    Calls Tryd.prog 12 #[.slice A n c] w fun e w' => e = .returned (.tuple #[.string (joinT xs), .int .i64 (joinC xs)]) ∧ w = w' := by
  rcases Nat.eq_zero_or_pos n with rfl | hp
  · have : xs = [] := List.length_eq_zero_iff.1 h.1.symm
    subst this
    exact cJP_spec_none A c w
  · obtain ⟨b, o, rfl, hb, hc⟩ := h.2 hp
    rw [← joinV_G xs (by have := h.1; omega)]
    exact cJP_spec b o c n xs w h.1 hp hn hsz hc
theorem tJP_impl (A : Option Addr) (n c : Nat) (xs : List ByteArray) (w : World) (hn : n ≤ 1048576) (hnc : n ≤ c) (hsz : ∀ x ∈ xs, x.size ≤ maxLen) (h : TextAt w w.heap.size A n xs) :
    Calls Tryd.prog 11 #[.slice A n c] w fun e w' => e = .returned (.tuple #[.string (joinT xs), .int .i64 (joinC xs)]) ∧ Below w.heap.size w w' := by
  rcases Nat.eq_zero_or_pos n with rfl | hp
  · have : xs = [] := List.length_eq_zero_iff.1 h.1.symm
    subst this
    exact (cJP_impl_none A c w).mono fun e w' ⟨he, hw⟩ => ⟨he, hw ▸ Below.refl _ _⟩
  · obtain ⟨b, o, rfl, hb, hc⟩ := h.2 hp
    rw [← joinV_G xs (by have := h.1; omega)]
    exact cJP_impl b o c n xs w h.1 hp hn hnc hsz hb hc
theorem replV_G (s old new : ByteArray) (h : repG s old new = true) : replV old new (spaceB s) = .tuple #[.string (repT s old new), .int .i64 (repC s old new)] := by
  unfold replV repT repC repH; rw [h, Bool.true_and]; cases hasB old (spaceB s) <;> rfl
theorem repl_bad (s old new : ByteArray) (h : repG s old new = false) : Value.tuple #[.string ByteArray.empty, .int .i64 1] = .tuple #[.string (repT s old new), .int .i64 (repC s old new)] := by
  unfold repT repC repH; rw [h]; rfl
theorem tRep_spec (s old new : ByteArray) (w : World) (hs : s.size ≤ 1073741824) (ho : old.size ≤ maxLen) (hw : new.size ≤ maxLen) :
    Calls Tryd.prog 15 #[.string s, .string old, .string new] w fun e w' => e = .returned (.tuple #[.string (repT s old new), .int .i64 (repC s old new)]) ∧ Below w.heap.size w w' := by
  cases h : repG s old new
  · rw [← repl_bad s old new h]; exact cReplace_spec_bad s old new w hs ho hw h
  · rw [← replV_G s old new h]; exact cReplace_spec_ok s old new w hs ho hw (repG_parts h).1 (repG_parts h).2.1 (repG_parts h).2.2
theorem tRep_impl (s old new : ByteArray) (w : World) (hs : s.size ≤ 1073741824) (hsh : w.ShapedOpen Tryd.prog) (ho : old.size ≤ maxLen) (hw : new.size ≤ maxLen) :
    Calls Tryd.prog 14 #[.string s, .string old, .string new] w fun e w' => e = .returned (.tuple #[.string (repT s old new), .int .i64 (repC s old new)]) ∧ Below w.heap.size w w' := by
  cases h : repG s old new
  · rw [← repl_bad s old new h]; exact cReplace_impl_bad s old new w hs hsh ho hw h
  · rw [← replV_G s old new h]; exact cReplace_impl_ok s old new w hs hsh ho hw (repG_parts h).1 (repG_parts h).2.1 (repG_parts h).2.2

theorem cHas (s : ByteArray) (b o c n : Nat) (xs : List ByteArray) (w : World) (hn : n = xs.length) (hbig : n ≤ 1048576)
    (hc : ∀ (j : Nat) x, xs[j]? = some x → w.cell? ⟨b, o + j, none⟩ = some (.string x)) :
    Calls Tryd.prog 21 #[.slice (some ⟨b, o, none⟩) n c, .string s] w fun e w' => e = .returned (.bool (hasB s xs)) ∧ w = w' := by
  have HN := Lib.hid hn
  have HC := Lib.hid hc
  clear hn hc
  go_enter Tryd.func21, Tryd.ntmps21
  go_wp2
  go_loop [5] (fun i => ∃ k : Nat, k ≤ n ∧ i = .int .i64 k ∧ Hid (hasB s (xs.take k) = false)) (fun i => n - (intOf i).toNat)
  case atStart => exact ⟨0, Nat.zero_le _, rfl, Lib.hid rfl⟩
  case round =>
    obtain ⟨k, hk, rfl, HA⟩ := hrel
    by_cases hlt : k < n
    · obtain ⟨x, hx⟩ : ∃ x, xs[k]? = some x := ⟨xs[k]'(by have := HN.out; omega), List.getElem?_eq_getElem _⟩
      have hcx := HC.out k x hx
      have HX := Lib.hid hx
      clear hx
      by_cases he : x = s
      · have hd := eqB_yes x s he
        have HE := Lib.hid he
        clear he
        go_wp2
        go_ret
        exact ⟨ret_bool (by symm; unfold hasB; rw [List.any_eq_true]; exact ⟨x, List.mem_of_getElem? HX.out, by simp [HE.out]⟩), rfl⟩
      · have hd := eqB_no x s he
        have HE := Lib.hid he
        clear he
        go_wp2
        go_round
        case rel => exact ⟨k + 1, by omega, by go_num, Lib.hid ((hasB_miss s xs k x HX.out HE.out).trans HA.out)⟩
        case measure => simp [intOf]; omega
    · go_wp2
      go_ret
      exact ⟨ret_bool (by have := HA.out; rw [List.take_of_length_le (by have := HN.out; omega)] at this; exact this.symm), rfl⟩
theorem tHas (s : ByteArray) (A : Option Addr) (n c : Nat) (xs : List ByteArray) (w : World) (hbig : n ≤ 1048576) (hp : 0 < n) (h : TextAt w w.heap.size A n xs) :
    Calls Tryd.prog 21 #[.slice A n c, .string s] w fun e w' => e = .returned (.bool (hasB s xs)) ∧ w = w' := by
  obtain ⟨b, o, rfl, hb, hc⟩ := h.2 hp
  exact cHas s b o c n xs w h.1 hbig hc
end Go.Proofs.YtdbbolnmcbhflaaDoor
