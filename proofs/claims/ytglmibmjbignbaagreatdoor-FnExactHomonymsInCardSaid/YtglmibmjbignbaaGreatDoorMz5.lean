/-
  Plain facts on letters and alphabets: no program is named here.
-/
import Derived.Test.YtglmibmjbignbaaGreatDoorMz1
import Derived.Test.YtglmibmjbignbaaGreatDoorMz3
namespace Go.Proofs.YtglmibmjbignbaaGreatDoor
section
set_option linter.unusedVariables false
open Go.RowKit

instance decEqText : DecidableEq ByteArray := fun a b => decidable_of_iff (a.data = b.data) ⟨ByteArray.ext, congrArg ByteArray.data⟩
instance memText (s : ByteArray) (xs : List ByteArray) : Decidable (s ∈ xs) := @List.instDecidableMemOfLawfulBEq ByteArray (@instBEqOfDecidableEq _ decEqText) inferInstance s xs
def letterB (s : ByteArray) : Bool := decide (1 ≤ s.size) && decide (s.size ≤ 3) && lowAll s.data.toList
theorem letter_sum (s : ByteArray) (h : lowAll s.data.toList = true) : letterB s = (decide ((1 : Int) ≤ (s.size : Int)) && decide ((s.size : Int) ≤ 3)) := by
  unfold letterB; rw [h, Bool.and_true]
  congr 1 <;> (rw [decide_eq_decide]; omega)
theorem letter_stop (s : ByteArray) (k : Nat) (h : k < s.size) (hc : lowB s[k] = false) : letterB s = false := by
  unfold letterB; rw [lowAll_stop s k h hc]; simp
theorem letter_long (s : ByteArray) (h : 3 < s.size) : letterB s = false := by
  unfold letterB; rw [show decide (s.size ≤ 3) = false from decide_eq_false (by omega)]; simp
theorem letter_word (s : ByteArray) (h : s.size ≤ 3) : wordB s = letterB s := by
  unfold letterB wordB; rw [decide_eq_true h, decide_eq_true (by omega : s.size ≤ 16)]
theorem letter_size (s : ByteArray) (h : letterB s = true) : 1 ≤ s.size ∧ s.size ≤ 3 := by
  unfold letterB at h; simp at h; exact ⟨h.1.1, h.1.2⟩

/-- The place of a text in a list (its length where it isn't there). -/
def posL : List ByteArray → ByteArray → Nat
  | [], _ => 0
  | x :: xs, s => if x = s then 0 else posL xs s + 1
theorem pos_at : ∀ (xs : List ByteArray) (k : Nat) (s : ByteArray), xs[k]? = some s → s ∉ xs.take k → posL xs s = k
  | [], k, s, h, _ => by simp at h
  | x :: xs, 0, s, h, _ => by simp at h; simp [posL, h]
  | x :: xs, k + 1, s, h, hn => by
    simp at h hn
    have hne : ¬ x = s := fun e => hn.1 e.symm
    rw [posL, if_neg hne, pos_at xs k s h hn.2]
theorem pos_lt : ∀ (xs : List ByteArray) (s : ByteArray), s ∈ xs → posL xs s < xs.length ∧ xs[posL xs s]? = some s
  | [], s, h => by simp at h
  | x :: xs, s, h => by
    unfold posL
    by_cases e : x = s
    · rw [if_pos e]; simp [e]
    · rw [if_neg e]
      have h' : s ∈ xs := by
        rcases List.mem_cons.1 h with h | h
        · exact absurd h.symm e
        · exact h
      have := pos_lt xs s h'
      exact ⟨by simp; exact this.1, by simpa using this.2⟩
def fIdx (xs : List ByteArray) (s : ByteArray) : Int := if s ∈ xs then (posL xs s : Int) else -1
theorem fIdx_hit (xs : List ByteArray) (k : Nat) (s : ByteArray) (h : xs[k]? = some s) (hn : s ∉ xs.take k) : fIdx xs s = (k : Int) := by
  unfold fIdx; rw [if_pos (List.mem_of_getElem? h), pos_at xs k s h hn]
theorem fIdx_miss (xs : List ByteArray) (s : ByteArray) (h : s ∉ xs) : fIdx xs s = -1 := by unfold fIdx; rw [if_neg h]
theorem fIdx_earlier (xs : List ByteArray) (k : Nat) (s : ByteArray) (h : xs[k]? = some s) (hn : s ∈ xs.take k) : fIdx xs s ≠ (k : Int) := by
  have hp := pos_lt (xs.take k) s hn
  have hm : s ∈ xs := List.mem_of_getElem? h
  unfold fIdx; rw [if_pos hm]
  have hk : (xs.take k).length ≤ k := by simp; omega
  have : posL xs s = posL (xs.take k) s := by
    have e : xs = xs.take k ++ xs.drop k := (List.take_append_drop k xs).symm
    have key : ∀ (a b : List ByteArray), s ∈ a → posL (a ++ b) s = posL a s := by
      intro a
      induction a with
      | nil => intro b h; simp at h
      | cons y a ih =>
        intro b h
        simp only [List.cons_append, posL]
        by_cases e : y = s
        · simp [e]
        · rw [if_neg e, if_neg e, ih b (by rcases List.mem_cons.1 h with h | h
                                           · exact absurd h.symm e
                                           · exact h)]
    exact (congrArg (fun l => posL l s) e).trans (key _ _ hn)
  omega

def goodB (xs : List ByteArray) : Bool := xs.all letterB && decide xs.Nodup
theorem good_zero (xs : List ByteArray) : goodB (xs.take 0) = true := by simp [goodB]
theorem good_step (xs : List ByteArray) (k : Nat) (x : ByteArray) (h : xs[k]? = some x) (ha : goodB (xs.take k) = true) (hl : letterB x = true) (hn : x ∉ xs.take k) : goodB (xs.take (k + 1)) = true := by
  have hk : k < xs.length := (List.getElem?_eq_some_iff.1 h).1
  have hx : xs[k] = x := (List.getElem?_eq_some_iff.1 h).2
  rw [List.take_succ_eq_append_getElem hk, hx]; unfold goodB at *
  rw [Bool.and_eq_true, decide_eq_true_eq] at *
  refine ⟨by simp only [List.all_append, ha.1, List.all_cons, List.all_nil, hl, Bool.and_true], ?_⟩
  rw [List.nodup_append]
  exact ⟨ha.2, by simp, fun a h1 b h2 e => by rw [List.mem_singleton] at h2; subst h2; subst e; exact hn h1⟩
theorem good_bad (xs : List ByteArray) (k : Nat) (x : ByteArray) (h : xs[k]? = some x) (hl : letterB x = false) : goodB xs = false := by
  unfold goodB
  rw [show xs.all letterB = false from by rw [List.all_eq_false]; exact ⟨x, List.mem_of_getElem? h, by simp [hl]⟩]; rfl
theorem good_twice (xs : List ByteArray) (k : Nat) (x : ByteArray) (h : xs[k]? = some x) (hn : x ∈ xs.take k) : goodB xs = false := by
  unfold goodB
  rw [show decide xs.Nodup = false from decide_eq_false ?_, Bool.and_false]
  intro hd
  have hk : k < xs.length := (List.getElem?_eq_some_iff.1 h).1
  have hx : xs[k] = x := (List.getElem?_eq_some_iff.1 h).2
  have e : xs = xs.take k ++ xs.drop k := (List.take_append_drop k xs).symm
  rw [e, List.nodup_append] at hd
  refine hd.2.2 x hn x ?_ rfl
  rw [List.drop_eq_getElem_cons hk, hx]; simp
theorem good_end (xs : List ByteArray) (k : Nat) (h : xs.length ≤ k) : goodB (xs.take k) = goodB xs := by
  rw [List.take_of_length_le h]
theorem good_mem (xs : List ByteArray) (h : goodB xs = true) (x : ByteArray) (hx : x ∈ xs) : letterB x = true := by
  unfold goodB at h; rw [Bool.and_eq_true, List.all_eq_true] at h; exact h.1 x hx
theorem good_nodup (xs : List ByteArray) (h : goodB xs = true) : xs.Nodup := by
  unfold goodB at h; rw [Bool.and_eq_true, decide_eq_true_eq] at h; exact h.2
/-- The list is an alphabet. -/
def alphaB (xs : List ByteArray) : Bool := goodB xs && (decide (1 ≤ xs.length) && decide (xs.length ≤ 40))
theorem alpha_bad (xs : List ByteArray) (h : goodB xs = false) : alphaB xs = false := by unfold alphaB; rw [h]; rfl
theorem alpha_sum (xs : List ByteArray) (h : goodB xs = true) : alphaB xs = (decide ((1 : Int) ≤ (xs.length : Int)) && decide ((xs.length : Int) ≤ 40)) := by
  unfold alphaB; rw [h, Bool.true_and]
  congr 1 <;> (rw [decide_eq_decide]; omega)
theorem alpha_none (xs : List ByteArray) (h : xs.length < 1) : alphaB xs = false := by unfold alphaB; rw [decide_eq_false (by omega : ¬ 1 ≤ xs.length)]; simp
theorem alpha_long (xs : List ByteArray) (h : 40 < xs.length) : alphaB xs = false := by unfold alphaB; rw [decide_eq_false (by omega : ¬ xs.length ≤ 40)]; simp
theorem alpha_yes (xs : List ByteArray) (h : goodB xs = true) (h1 : 1 ≤ xs.length) (h2 : xs.length ≤ 40) : alphaB xs = true := by unfold alphaB; rw [h, decide_eq_true h1, decide_eq_true h2]; rfl
theorem alpha_good (xs : List ByteArray) (h : alphaB xs = true) : goodB xs = true := by unfold alphaB at h; rw [Bool.and_eq_true] at h; exact h.1
theorem alpha_len (xs : List ByteArray) (h : alphaB xs = true) : 1 ≤ xs.length ∧ xs.length ≤ 40 := by
  unfold alphaB at h; rw [Bool.and_eq_true, Bool.and_eq_true, decide_eq_true_eq, decide_eq_true_eq] at h; exact h.2
theorem alpha_size (xs : List ByteArray) (h : alphaB xs = true) (x : ByteArray) (hx : x ∈ xs) : 1 ≤ x.size ∧ x.size ≤ 3 := letter_size x (good_mem xs (alpha_good xs h) x hx)
end
section
set_option linter.unusedVariables false
open Go.RowKit

def spaceB (s : ByteArray) : List ByteArray := piecesB 32 s
def phraseB (s : ByteArray) : Bool := wordsB (spaceB s) && decide ((spaceB s).length ≤ 8)
theorem piece_size (c : UInt8) (k : Nat) : ∀ (s x : ByteArray), x ∈ Lib.splitB (sepB c) 0 k s → x.size ≤ s.size := by
  induction k with
  | zero => intro s x h; simp [Lib.splitB] at h; subst h; exact Nat.le_refl _
  | succ k ih =>
    intro s x h
    rcases Lib.indexB_cases s (sepB c) with hm | ⟨i, hi, hr⟩
    · rw [Lib.splitB_miss _ _ _ _ hm] at h; simp at h; subst h; exact Nat.le_refl _
    · rw [Lib.splitB_hit _ _ _ _ i hi, List.mem_cons] at h
      rcases h with h | h
      · subst h; rw [ByteArray.size_extract]; omega
      · have := ih _ _ h
        rw [ByteArray.size_extract] at this; omega

set_option maxHeartbeats 1000000 in
theorem cPhrase_bad (s : ByteArray) (w : World) (hs : s.size ≤ 1073741824) (h : wordsB (spaceB s) = false) :
    Calls Tryz.prog 141 #[.string s] w fun e w' => e = .returned (.tuple #[.slice none 0 0, .bool false]) ∧ Below w.heap.size w w' := by
  have hlen := pieces_len 32 s
  have hsz : ∀ x ∈ piecesB 32 s, x.size ≤ maxLen := fun x hx => by have := piece_size 32 _ s x hx; unfold maxLen; omega
  obtain ⟨xs, hxs⟩ : ∃ xs, xs = piecesB 32 s := ⟨_, rfl⟩
  have hc := cSplit 32 32 rfl s
  unfold spaceB at h
  rw [← hxs] at h hlen hsz hc
  clear hxs
  have H := Lib.hid h
  have HS := Lib.hid hsz
  have HCt := Lib.hid hc
  clear h hsz hc
  obtain ⟨n, hn⟩ : ∃ n, n = xs.length := ⟨_, rfl⟩
  have HN := Lib.hid hn
  go_enter Tryz.func141, Tryz.ntmps141
  rw [← hn] at hlen
  clear hn
  go_wp2_with fail
  refine (HCt.out _ hs).mono ?_
  rintro e w1 ⟨v, rfl, hown, hbw⟩
  have hpos : 0 < xs.length := by
    rcases Nat.eq_zero_or_pos xs.length with h0 | h0
    · have h1 := H.out
      rw [List.eq_nil_of_length_eq_zero h0] at h1; cases h1
    · exact h0
  rw [← HN.out] at hown hpos
  obtain ⟨g, cap, rfl, hg1, hg2⟩ := World.ownsRow.form hown hpos
  go_wp2_with fail
  go_loop [5] (fun i => ∃ k : Nat, k ≤ n ∧ i = .int .i64 k ∧ Hid (wordsB (xs.take k) = true)) (fun i => n - (intOf i).toNat)
  case atStart => exact ⟨0, Nat.zero_le _, rfl, Lib.hid rfl⟩
  case round =>
    obtain ⟨k, hk, rfl, HA⟩ := hrel
    by_cases hlt : k < n
    · obtain ⟨x, hx⟩ : ∃ x, xs[k]? = some x := ⟨xs[k]'(by have := HN.out; omega), List.getElem?_eq_getElem _⟩
      have hcx : w1.cell? ⟨g, k, none⟩ = some (.string x) := (hown.cellAt k (by omega)).trans (strV_at _ _ _ hx)
      have hsx := HS.out x (List.mem_of_getElem? hx)
      have HX := Lib.hid hx
      clear hx
      cases hb : wordB x
      · have HB := Lib.hid hb
        go_wp2_with (go_at_call 82; refine (cIsWord_spec x _ hsx).mono ?_; rintro e w' ⟨rfl, rfl⟩)
        go_ret2
        exact ⟨rfl, hbw⟩
      · have HB := Lib.hid hb
        go_wp2_with (go_at_call 82; refine (cIsWord_spec x _ hsx).mono ?_; rintro e w' ⟨rfl, rfl⟩)
        go_round
        case rel => exact ⟨k + 1, by omega, by go_num, Lib.hid (wordsB_step xs k x HX.out HA.out HB.out)⟩
        case measure => simp [intOf]; omega
    · exfalso
      have h1 := (wordsB_end xs k (by have := HN.out; omega)).symm.trans HA.out
      rw [H.out] at h1; cases h1

set_option maxHeartbeats 1000000 in
theorem cPhrase_ok (s : ByteArray) (w : World) (hs : s.size ≤ 1073741824) (h : wordsB (spaceB s) = true) :
    Calls Tryz.prog 141 #[.string s] w fun e w' => ∃ v, e = .returned (.tuple #[v, .bool (decide ((spaceB s).length ≤ 8))]) ∧
      w'.ownsRow w.heap.size 9 1 v (spaceB s).length (strV (spaceB s)) ∧ Below w.heap.size w w' := by
  have hlen := pieces_len 32 s
  have hsz : ∀ x ∈ piecesB 32 s, x.size ≤ maxLen := fun x hx => by have := piece_size 32 _ s x hx; unfold maxLen; omega
  have hpos : 0 < (piecesB 32 s).length := by rw [← rest_zero]; exact rest_pos _ _ _
  have hc := cSplit 32 32 rfl s
  unfold spaceB at *
  obtain ⟨xs, hxs⟩ : ∃ xs, xs = piecesB 32 s := ⟨_, rfl⟩
  rw [← hxs] at h hlen hsz hc hpos ⊢
  clear hxs
  have H := Lib.hid h
  have HS := Lib.hid hsz
  have HCt := Lib.hid hc
  clear h hsz hc
  obtain ⟨n, hn⟩ : ∃ n, n = xs.length := ⟨_, rfl⟩
  have HN := Lib.hid hn
  rw [← hn] at hlen hpos ⊢
  clear hn
  go_enter Tryz.func141, Tryz.ntmps141
  go_wp2_with fail
  refine (HCt.out _ hs).mono ?_
  rintro e w1 ⟨v, rfl, hown, hbw⟩
  rw [← HN.out] at hown
  obtain ⟨g, cap, rfl, hg1, hg2⟩ := World.ownsRow.form hown hpos
  go_wp2_with fail
  go_loop [5] (fun i => ∃ k : Nat, k ≤ n ∧ i = .int .i64 k) (fun i => n - (intOf i).toNat)
  case atStart => exact ⟨0, Nat.zero_le _, rfl⟩
  case round =>
    obtain ⟨k, hk, rfl⟩ := hrel
    by_cases hlt : k < n
    · obtain ⟨x, hx⟩ : ∃ x, xs[k]? = some x := ⟨xs[k]'(by have := HN.out; omega), List.getElem?_eq_getElem _⟩
      have hcx : w1.cell? ⟨g, k, none⟩ = some (.string x) := (hown.cellAt k (by omega)).trans (strV_at _ _ _ hx)
      have hsx := HS.out x (List.mem_of_getElem? hx)
      have hb : wordB x = true := by
        cases hb : wordB x
        · have h1 := wordsB_stop xs k x hx hb
          rw [H.out] at h1; cases h1
        · rfl
      clear hx
      go_wp2_with (go_at_call 82; refine (cIsWord_spec x _ hsx).mono ?_; rintro e w' ⟨rfl, rfl⟩)
      go_round
      case rel => exact ⟨k + 1, by omega, by go_num⟩
      case measure => simp [intOf]; omega
    · go_wp2
      go_ret2
      exact ⟨_, by simp; omega, hown, hbw⟩
end
end Go.Proofs.YtglmibmjbignbaaGreatDoor
