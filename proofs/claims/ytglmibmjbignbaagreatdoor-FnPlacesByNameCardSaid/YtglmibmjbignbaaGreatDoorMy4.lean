/-
  A box of any cells: what a block of a struct by value holds, while a source is drawn from.
-/
import Derived.Test.YtglmibmjbignbaaGreatDoorMy3
import Derived.Test.YtglmibmjbignbaaGreatDoorMy1
import Derived.Laws.NewBlocks
import Derived.BigQuiet
import Derived.Deep.QuietTactic
import Derived.Lib.Split
namespace Go.Proofs.YtglmibmjbignbaaGreatDoor
section
set_option linter.unusedVariables false
open Go.RowKit

/-- Block b holds the cells l, none of them frozen. -/
def LB (w : World) (b : Nat) (l : List Value) : Prop := b < w.heap.size ∧ ∀ (i : Nat) (v : Value), l[i]? = some v → w.cell? ⟨b, i, none⟩ = some v ∧ w.frozen? ⟨b, i, none⟩ = false
theorem LB.new (w : World) (l : List Value) (t : TypeId) : LB (w.alloc (.cells l.toArray t)) w.heap.size l := by
  have hn : (w.alloc (.cells l.toArray t)).heap[w.heap.size]? = some (.cells l.toArray t) := by
    show (w.heap.push _)[w.heap.size]? = some _
    simp
  refine ⟨by simp, fun i v h => ⟨?_, ?_⟩⟩
  · rw [World.cell?_alloc_at _ _ _ _ rfl]; simpa using h
  · have hi := (List.getElem?_eq_some_iff.1 h).1
    unfold World.frozen?
    simp only [hn]
    first | rfl | (simp; done) | (simp at hi ⊢; exact hi) | simp [hi]
theorem LB.block {w w' : World} {b : Nat} {l : List Value} (h : LB w b l) (hs : b < w'.heap.size) (hh : w'.heap[b]? = w.heap[b]?) : LB w' b l :=
  ⟨hs, fun i v hv => ⟨(World.cell?_of_block (w := w) (a := ⟨b, i, none⟩) hh).trans (h.2 i v hv).1, (World.frozen?_of_block (w := w) (a := ⟨b, i, none⟩) hh).trans (h.2 i v hv).2⟩⟩
theorem LB.grown {w w' : World} {b B : Nat} {l : List Value} (h : LB w b l) (hg : w.grownBy w' (some B)) (hne : b ≠ B) : LB w' b l :=
  h.block (Nat.lt_of_lt_of_le h.1 hg.size) (hg.block b h.1 (fun e => hne (by injection e)))
theorem LB.alloc {w : World} {b : Nat} {l : List Value} (h : LB w b l) (o : Obj) : LB (w.alloc o) b l :=
  h.block (by simp; have := h.1; omega) (((Below.refl w.heap.size w).alloc (Nat.le_refl _) o).block b h.1)
theorem LB.drew {w : World} {b : Nat} {l : List Value} (h : LB w b l) : LB w.drew b l := h
theorem LB.other {w : World} {b g i : Nat} {l : List Value} {u : Value} (h : LB w b l) (hne : b ≠ g) : LB (w.setCell ⟨g, i, none⟩ u) b l :=
  h.block (by simpa using h.1) (heap_set1 w g i b u hne)
theorem LB.set {w : World} {b : Nat} {l : List Value} (h : LB w b l) (i : Nat) (u : Value) (hi : i < l.length) : LB (w.setCell ⟨b, i, none⟩ u) b (l.set i u) := by
  refine ⟨by simpa using h.1, fun k v hv => ⟨?_, ?_⟩⟩
  · by_cases hk : i = k
    · subst hk
      rw [List.getElem?_set_self hi] at hv
      obtain rfl := Option.some.inj hv
      exact World.cell?_setCell_same' _ _ _ (by rw [(h.2 i l[i] (List.getElem?_eq_getElem hi)).1]; rfl)
    · rw [List.getElem?_set_ne hk] at hv
      rw [World.cell?_setCell_other _ _ _ _ (by intro e; injection e; omega)]
      exact (h.2 k v hv).1
  · have : ∃ v', l[k]? = some v' := by
      have hl := (List.getElem?_eq_some_iff.1 hv).1
      rw [List.length_set] at hl
      exact ⟨_, List.getElem?_eq_getElem hl⟩
    obtain ⟨v', hv'⟩ := this
    exact (World.frozen?_setCell _ _ _ _).trans (h.2 k v' hv').2
theorem LB.cell {w : World} {b : Nat} {l : List Value} (h : LB w b l) (i : Nat) (v : Value) (hv : l[i]? = some v) : w.cell? ⟨b, i, none⟩ = some v := (h.2 i v hv).1
theorem LB.soft {w : World} {b : Nat} {l : List Value} (h : LB w b l) (i : Nat) (v : Value) (hv : l[i]? = some v) : w.frozen? ⟨b, i, none⟩ = false := (h.2 i v hv).2
/-- Five cells at once, as a name has them. -/
theorem LB.five {w : World} {b : Nat} {v0 v1 v2 v3 v4 : Value} (h : LB w b [v0, v1, v2, v3, v4]) :
    w.cell? ⟨b, 0, none⟩ = some v0 ∧ w.cell? ⟨b, 1, none⟩ = some v1 ∧ w.cell? ⟨b, 2, none⟩ = some v2 ∧ w.cell? ⟨b, 3, none⟩ = some v3 ∧ w.cell? ⟨b, 4, none⟩ = some v4 ∧
    w.frozen? ⟨b, 0, none⟩ = false ∧ w.frozen? ⟨b, 1, none⟩ = false ∧ w.frozen? ⟨b, 2, none⟩ = false ∧ w.frozen? ⟨b, 3, none⟩ = false ∧ w.frozen? ⟨b, 4, none⟩ = false :=
  ⟨(h.2 0 v0 rfl).1, (h.2 1 v1 rfl).1, (h.2 2 v2 rfl).1, (h.2 3 v3 rfl).1, (h.2 4 v4 rfl).1, (h.2 0 v0 rfl).2, (h.2 1 v1 rfl).2, (h.2 2 v2 rfl).2, (h.2 3 v3 rfl).2, (h.2 4 v4 rfl).2⟩
end
section
set_option linter.unusedVariables false
open Go.RowKit

instance decEqText : DecidableEq ByteArray := fun a b => decidable_of_iff (a.data = b.data) ⟨ByteArray.ext, congrArg ByteArray.data⟩
instance memText (s : ByteArray) (xs : List ByteArray) : Decidable (s ∈ xs) := @List.instDecidableMemOfLawfulBEq ByteArray (@instBEqOfDecidableEq _ decEqText) inferInstance s xs
def letterB (s : ByteArray) : Bool := decide (1 ≤ s.size) && decide (s.size ≤ 3) && lowAll s.data.toList
theorem letter_sum (s : ByteArray) (h : lowAll s.data.toList = true) : letterB s = (decide ((1 : Int) ≤ (s.size : Int)) && decide ((s.size : Int) ≤ 3)) := by
  unfold letterB; rw [h, Bool.and_true]
  congr 1 <;> (rw [decide_eq_decide]; omega)
theorem letter_stop (s : ByteArray) (k : Nat) (h : k < s.size) (hc : lowB s[k] = false) : letterB s = false := by
  unfold letterB; rw [lowAll_stop s k h hc]; simp
theorem letter_long (s : ByteArray) (h : 3 < s.size) : letterB s = false := by
  unfold letterB; rw [show decide (s.size ≤ 3) = false from decide_eq_false (by omega)]; simp
theorem letter_word (s : ByteArray) (h : s.size ≤ 3) : wordB s = letterB s := by
  unfold letterB wordB; rw [decide_eq_true h, decide_eq_true (by omega : s.size ≤ 16)]
theorem letter_size (s : ByteArray) (h : letterB s = true) : 1 ≤ s.size ∧ s.size ≤ 3 := by
  unfold letterB at h; simp at h; exact ⟨h.1.1, h.1.2⟩

/-- The place of a text in a list (its length where it isn't there). -/
def posL : List ByteArray → ByteArray → Nat
  | [], _ => 0
  | x :: xs, s => if x = s then 0 else posL xs s + 1
theorem pos_at : ∀ (xs : List ByteArray) (k : Nat) (s : ByteArray), xs[k]? = some s → s ∉ xs.take k → posL xs s = k
  | [], k, s, h, _ => by simp at h
  | x :: xs, 0, s, h, _ => by simp at h; simp [posL, h]
  | x :: xs, k + 1, s, h, hn => by
    simp at h hn
    have hne : ¬ x = s := fun e => hn.1 e.symm
    rw [posL, if_neg hne, pos_at xs k s h hn.2]
theorem pos_lt : ∀ (xs : List ByteArray) (s : ByteArray), s ∈ xs → posL xs s < xs.length ∧ xs[posL xs s]? = some s
  | [], s, h => by simp at h
  | x :: xs, s, h => by
    unfold posL
    by_cases e : x = s
    · rw [if_pos e]; simp [e]
    · rw [if_neg e]
      have h' : s ∈ xs := by
        rcases List.mem_cons.1 h with h | h
        · exact absurd h.symm e
        · exact h
      have := pos_lt xs s h'
      exact ⟨by simp; exact this.1, by simpa using this.2⟩
def fIdx (xs : List ByteArray) (s : ByteArray) : Int := if s ∈ xs then (posL xs s : Int) else -1
theorem fIdx_hit (xs : List ByteArray) (k : Nat) (s : ByteArray) (h : xs[k]? = some s) (hn : s ∉ xs.take k) : fIdx xs s = (k : Int) := by
  unfold fIdx; rw [if_pos (List.mem_of_getElem? h), pos_at xs k s h hn]
theorem fIdx_miss (xs : List ByteArray) (s : ByteArray) (h : s ∉ xs) : fIdx xs s = -1 := by unfold fIdx; rw [if_neg h]
theorem fIdx_earlier (xs : List ByteArray) (k : Nat) (s : ByteArray) (h : xs[k]? = some s) (hn : s ∈ xs.take k) : fIdx xs s ≠ (k : Int) := by
  have hp := pos_lt (xs.take k) s hn
  have hm : s ∈ xs := List.mem_of_getElem? h
  unfold fIdx; rw [if_pos hm]
  have hk : (xs.take k).length ≤ k := by simp; omega
  have : posL xs s = posL (xs.take k) s := by
    have e : xs = xs.take k ++ xs.drop k := (List.take_append_drop k xs).symm
    have key : ∀ (a b : List ByteArray), s ∈ a → posL (a ++ b) s = posL a s := by
      intro a
      induction a with
      | nil => intro b h; simp at h
      | cons y a ih =>
        intro b h
        simp only [List.cons_append, posL]
        by_cases e : y = s
        · simp [e]
        · rw [if_neg e, if_neg e, ih b (by rcases List.mem_cons.1 h with h | h
                                           · exact absurd h.symm e
                                           · exact h)]
    exact (congrArg (fun l => posL l s) e).trans (key _ _ hn)
  omega

def goodB (xs : List ByteArray) : Bool := xs.all letterB && decide xs.Nodup
theorem good_zero (xs : List ByteArray) : goodB (xs.take 0) = true := by simp [goodB]
theorem good_step (xs : List ByteArray) (k : Nat) (x : ByteArray) (h : xs[k]? = some x) (ha : goodB (xs.take k) = true) (hl : letterB x = true) (hn : x ∉ xs.take k) : goodB (xs.take (k + 1)) = true := by
  have hk : k < xs.length := (List.getElem?_eq_some_iff.1 h).1
  have hx : xs[k] = x := (List.getElem?_eq_some_iff.1 h).2
  rw [List.take_succ_eq_append_getElem hk, hx]; unfold goodB at *
  rw [Bool.and_eq_true, decide_eq_true_eq] at *
  refine ⟨by simp only [List.all_append, ha.1, List.all_cons, List.all_nil, hl, Bool.and_true], ?_⟩
  rw [List.nodup_append]
  exact ⟨ha.2, by simp, fun a h1 b h2 e => by rw [List.mem_singleton] at h2; subst h2; subst e; exact hn h1⟩
theorem good_bad (xs : List ByteArray) (k : Nat) (x : ByteArray) (h : xs[k]? = some x) (hl : letterB x = false) : goodB xs = false := by
  unfold goodB
  rw [show xs.all letterB = false from by rw [List.all_eq_false]; exact ⟨x, List.mem_of_getElem? h, by simp [hl]⟩]; rfl
theorem good_twice (xs : List ByteArray) (k : Nat) (x : ByteArray) (h : xs[k]? = some x) (hn : x ∈ xs.take k) : goodB xs = false := by
  unfold goodB
  rw [show decide xs.Nodup = false from decide_eq_false ?_, Bool.and_false]
  intro hd
  have hk : k < xs.length := (List.getElem?_eq_some_iff.1 h).1
  have hx : xs[k] = x := (List.getElem?_eq_some_iff.1 h).2
  have e : xs = xs.take k ++ xs.drop k := (List.take_append_drop k xs).symm
  rw [e, List.nodup_append] at hd
  refine hd.2.2 x hn x ?_ rfl
  rw [List.drop_eq_getElem_cons hk, hx]; simp
theorem good_end (xs : List ByteArray) (k : Nat) (h : xs.length ≤ k) : goodB (xs.take k) = goodB xs := by
  rw [List.take_of_length_le h]
theorem good_mem (xs : List ByteArray) (h : goodB xs = true) (x : ByteArray) (hx : x ∈ xs) : letterB x = true := by
  unfold goodB at h; rw [Bool.and_eq_true, List.all_eq_true] at h; exact h.1 x hx
theorem good_nodup (xs : List ByteArray) (h : goodB xs = true) : xs.Nodup := by
  unfold goodB at h; rw [Bool.and_eq_true, decide_eq_true_eq] at h; exact h.2
/-- The list is an alphabet. -/
def alphaB (xs : List ByteArray) : Bool := goodB xs && (decide (1 ≤ xs.length) && decide (xs.length ≤ 40))
theorem alpha_bad (xs : List ByteArray) (h : goodB xs = false) : alphaB xs = false := by unfold alphaB; rw [h]; rfl
theorem alpha_sum (xs : List ByteArray) (h : goodB xs = true) : alphaB xs = (decide ((1 : Int) ≤ (xs.length : Int)) && decide ((xs.length : Int) ≤ 40)) := by
  unfold alphaB; rw [h, Bool.true_and]
  congr 1 <;> (rw [decide_eq_decide]; omega)
theorem alpha_none (xs : List ByteArray) (h : xs.length < 1) : alphaB xs = false := by unfold alphaB; rw [decide_eq_false (by omega : ¬ 1 ≤ xs.length)]; simp
theorem alpha_long (xs : List ByteArray) (h : 40 < xs.length) : alphaB xs = false := by unfold alphaB; rw [decide_eq_false (by omega : ¬ xs.length ≤ 40)]; simp
theorem alpha_yes (xs : List ByteArray) (h : goodB xs = true) (h1 : 1 ≤ xs.length) (h2 : xs.length ≤ 40) : alphaB xs = true := by unfold alphaB; rw [h, decide_eq_true h1, decide_eq_true h2]; rfl
theorem alpha_good (xs : List ByteArray) (h : alphaB xs = true) : goodB xs = true := by unfold alphaB at h; rw [Bool.and_eq_true] at h; exact h.1
theorem alpha_len (xs : List ByteArray) (h : alphaB xs = true) : 1 ≤ xs.length ∧ xs.length ≤ 40 := by
  unfold alphaB at h; rw [Bool.and_eq_true, Bool.and_eq_true, decide_eq_true_eq, decide_eq_true_eq] at h; exact h.2
theorem alpha_size (xs : List ByteArray) (h : alphaB xs = true) (x : ByteArray) (hx : x ∈ xs) : 1 ≤ x.size ∧ x.size ≤ 3 := letter_size x (good_mem xs (alpha_good xs h) x hx)
end
section
set_option linter.unusedVariables false
open Go.RowKit

def wordsB (xs : List ByteArray) : Bool := xs.all wordB
theorem wordsB_two (a b : ByteArray) : wordsB [a, b] = (wordB a && wordB b) := by simp [wordsB]
theorem wordsB_take_zero (xs : List ByteArray) : wordsB (xs.take 0) = true := rfl
theorem wordsB_step (xs : List ByteArray) (k : Nat) (x : ByteArray) (h : xs[k]? = some x) (ha : wordsB (xs.take k) = true) (hc : wordB x = true) : wordsB (xs.take (k + 1)) = true := by
  have hk : k < xs.length := (List.getElem?_eq_some_iff.1 h).1
  have hx : xs[k] = x := (List.getElem?_eq_some_iff.1 h).2
  rw [List.take_succ_eq_append_getElem hk]; unfold wordsB at *; simp [List.all_append, ha, hx, hc]
theorem wordsB_stop (xs : List ByteArray) (k : Nat) (x : ByteArray) (h : xs[k]? = some x) (hc : wordB x = false) : wordsB xs = false := by
  unfold wordsB; rw [List.all_eq_false]
  exact ⟨x, List.mem_of_getElem? h, by simp [hc]⟩
theorem wordsB_end (xs : List ByteArray) (k : Nat) (h : xs.length ≤ k) : wordsB (xs.take k) = wordsB xs := by
  rw [List.take_of_length_le h]

set_option maxHeartbeats 400000 in
theorem cAreAllW (b o c n : Nat) (xs : List ByteArray) (w : World) (hn : n = xs.length) (hbig : n ≤ 9223372036854775807) (hs : ∀ x ∈ xs, x.size ≤ maxLen)
    (hc : ∀ (j : Nat) x, xs[j]? = some x → w.cell? ⟨b, o + j, none⟩ = some (.string x)) :
    Calls Tryz.prog 102 #[.slice (some ⟨b, o, none⟩) n c, .func (.func 89) #[] #[]] w fun e w' => e = .returned (.bool (wordsB xs)) ∧ w = w' := by
  have HN := Lib.hid hn
  clear hn
  have HC := Lib.hid hc
  clear hc
  have HS := Lib.hid hs
  clear hs
  go_enter Tryz.func102, Tryz.ntmps102
  go_wp2
  go_loop [9] (fun i => ∃ k : Nat, k ≤ n ∧ i = .int .i64 k ∧ Hid (wordsB (xs.take k) = true)) (fun i => n - (intOf i).toNat)
  case atStart => exact ⟨0, Nat.zero_le _, rfl, Lib.hid rfl⟩
  case round =>
    obtain ⟨k, hk, rfl, HA⟩ := hrel
    by_cases hlt : k < n
    · obtain ⟨x, hx⟩ : ∃ x, xs[k]? = some x := ⟨xs[k]'(by have := HN.out; omega), List.getElem?_eq_getElem _⟩
      have hcx := HC.out k x hx
      have hsx := HS.out x (List.mem_of_getElem? hx)
      have HX := Lib.hid hx
      clear hx
      cases hb : wordB x
      · have HB := Lib.hid hb
        go_wp2_with (go_at_call 89; refine (cIsWord_impl x _ hsx).mono ?_; rintro e w' ⟨rfl, rfl⟩)
        go_ret
        exact ⟨ret_bool (wordsB_stop xs k x HX.out HB.out).symm, rfl⟩
      · have HB := Lib.hid hb
        go_wp2_with (go_at_call 89; refine (cIsWord_impl x _ hsx).mono ?_; rintro e w' ⟨rfl, rfl⟩)
        go_round
        case rel => exact ⟨k + 1, by omega, by go_num, Lib.hid (wordsB_step xs k x HX.out HA.out HB.out)⟩
        case measure => simp [intOf]; omega
    · go_wp2
      go_ret
      exact ⟨ret_bool ((wordsB_end xs k (by have := HN.out; omega)).symm.trans HA.out).symm, rfl⟩
theorem cAreWords (b o c n : Nat) (xs : List ByteArray) (w : World) (hn : n = xs.length) (hbig : n ≤ 9223372036854775807) (hs : ∀ x ∈ xs, x.size ≤ maxLen)
    (hc : ∀ (j : Nat) x, xs[j]? = some x → w.cell? ⟨b, o + j, none⟩ = some (.string x)) :
    Calls Tryz.prog 136 #[.slice (some ⟨b, o, none⟩) n c] w fun e w' => e = .returned (.bool (wordsB xs)) ∧ w = w' := by
  have CA := Lib.hid (cAreAllW b o c n xs w hn hbig hs hc)
  clear hn hbig hs hc
  generalize wordsB xs = r at CA ⊢
  go_enter Tryz.func136, Tryz.ntmps136
  go_wp2_with (go_at_call 102; refine CA.out.mono ?_; rintro e w' ⟨rfl, rfl⟩)
  go_ret
  exact ⟨rfl, rfl⟩

/-- The code of two words. -/
def twoE (a b : ByteArray) : Bool := wordB a && wordB b
theorem cells_two (w : World) (a b : ByteArray) (B : Nat) (hc : ∀ i v, (#[.string a, .string b] : Array Value)[i]? = some v → w.cell? ⟨B, i, none⟩ = some v) :
    ∀ (j : Nat) x, [a, b][j]? = some x → w.cell? ⟨B, 0 + j, none⟩ = some (.string x) := by
  intro j x h
  rw [Nat.zero_add]
  match j, h with
  | 0, h => obtain rfl : a = x := by simpa using h
            exact hc 0 _ rfl
  | 1, h => obtain rfl : b = x := by simpa using h
            exact hc 1 _ rfl

/-- impl.areWords at a fresh slice of two texts. -/
theorem cAreWords2 (a b : ByteArray) (w : World) (ha : a.size ≤ maxLen) (hb : b.size ≤ maxLen) :
    Calls Tryz.prog 136 #[.slice (some ⟨w.heap.size, 0, none⟩) 2 2] (w.alloc (.cells #[.string a, .string b] 9)) fun e w' => e = .returned (.bool (twoE a b)) ∧ w.alloc (.cells #[.string a, .string b] 9) = w' := by
  refine (cAreWords w.heap.size 0 2 2 [a, b] _ rfl (by omega) (by simp [ha, hb]) (cells_two _ a b _ ?_)).mono fun e w' ⟨he, hw⟩ => ⟨by rw [he, wordsB_two, twoE], hw⟩
  intro i v h
  rw [World.cell?_alloc_at _ _ _ _ rfl]
  exact h

end
section
set_option linter.unusedVariables false

def sepB (c : UInt8) : ByteArray := ⟨#[c]⟩
theorem sepB_size (c : UInt8) : (sepB c).size = 1 := rfl
def piecesB (c : UInt8) (s : ByteArray) : List ByteArray := Lib.splitB (sepB c) 0 s.size s

theorem occ_one (l : List UInt8) (c : UInt8) (i : Nat) : Lib.occAt l [c] i = decide (l[i]? = some c) := by
  unfold Lib.occAt
  rw [← List.head?_drop]
  cases h : l.drop i with
  | nil => simp [List.isPrefixOf]
  | cons x r =>
    show (c == x && true) = decide (some x = some c)
    rw [Bool.and_true, Bool.eq_iff_iff, beq_iff_eq, decide_eq_true_eq, Option.some.injEq]
    exact eq_comm
theorem size_list (s : ByteArray) : s.data.toList.length = s.size := by simp
theorem extract_get (s : ByteArray) (a b j : Nat) (hb : b ≤ s.size) (h : a + j < b) : (s.extract a b).data.toList[j]? = s.data.toList[a + j]? := by
  rw [Lib.extract_data]
  simp [List.getElem?_take, List.getElem?_drop]
  omega
theorem extract_size (s : ByteArray) (a b : Nat) (hb : b ≤ s.size) : (s.extract a b).size = b - a := by
  rw [ByteArray.size_extract]; omega
theorem index_hit (s : ByteArray) (c : UInt8) (a i : Nat) (ha : a ≤ i) (hi : i < s.size) (hc : s[i] = c) (hn : ∀ j, a ≤ j → j < i → s.data.toList[j]? ≠ some c) :
    Lib.indexB (s.extract a s.size) (sepB c) = ((i - a : Nat) : Int) := by
  show Lib.index _ [c] = _
  have hz := extract_size s a s.size (Nat.le_refl _)
  have hl : (s.extract a s.size).data.toList.length = s.size - a := (size_list _).trans hz
  refine Lib.index_first (by omega) ?_ ?_
  · rw [occ_one, extract_get s a s.size _ (Nat.le_refl _) (by omega), show a + (i - a) = i by omega, List.getElem?_eq_getElem (by simpa using hi)]
    simp only [decide_eq_true_eq, Option.some.injEq]; exact hc
  · intro j hj
    rw [occ_one, extract_get s a s.size _ (Nat.le_refl _) (by omega)]
    exact decide_eq_false (hn (a + j) (by omega) (by omega))
theorem index_miss (s : ByteArray) (c : UInt8) (a : Nat) (ha : a ≤ s.size) (hn : ∀ j, a ≤ j → j < s.size → s.data.toList[j]? ≠ some c) :
    Lib.indexB (s.extract a s.size) (sepB c) = -1 := by
  show Lib.index _ [c] = _
  have hz := extract_size s a s.size (Nat.le_refl _)
  have hl : (s.extract a s.size).data.toList.length = s.size - a := (size_list _).trans hz
  refine Lib.index_none (fun j hj => ?_)
  rw [occ_one]
  by_cases h : a + j < s.size
  · rw [extract_get s a s.size _ (Nat.le_refl _) h]
    exact decide_eq_false (hn (a + j) (by omega) h)
  · rw [List.getElem?_eq_none (by omega)]; rfl

theorem split_fuel (c : UInt8) : ∀ (k k' : Nat) (t : ByteArray), t.size ≤ k → t.size ≤ k' → Lib.splitB (sepB c) 0 k t = Lib.splitB (sepB c) 0 k' t := by
  intro k
  induction k with
  | zero =>
    intro k' t h h'
    rcases Lib.indexB_cases t (sepB c) with hm | ⟨i, hi, hr⟩
    · rw [Lib.splitB_miss _ _ _ _ hm, Lib.splitB_miss _ _ _ _ hm]
    · rw [sepB_size] at hr; omega
  | succ k ih =>
    intro k' t h h'
    rcases Lib.indexB_cases t (sepB c) with hm | ⟨i, hi, hr⟩
    · rw [Lib.splitB_miss _ _ _ _ hm, Lib.splitB_miss _ _ _ _ hm]
    · rw [sepB_size] at hr
      cases k' with
      | zero => omega
      | succ k' =>
        rw [Lib.splitB_hit _ _ _ _ i hi, Lib.splitB_hit _ _ _ _ i hi]
        have hz := extract_size t (i + (sepB c).size) t.size (Nat.le_refl _)
        rw [sepB_size] at hz ⊢
        rw [ih k' (t.extract (i + 1) t.size) (by omega) (by omega)]
theorem split_some (c : UInt8) : ∀ (m n : Nat) (t : ByteArray), m ≤ n → Lib.splitB (sepB c) 0 m t = Lib.splitB (sepB c) 0 n t ∨ ((Lib.splitB (sepB c) 0 m t).length = m + 1 ∧ m + 1 < (Lib.splitB (sepB c) 0 n t).length) := by
  intro m
  induction m with
  | zero =>
    intro n t h
    cases n with
    | zero => exact .inl rfl
    | succ n =>
      rcases Lib.indexB_cases t (sepB c) with hm | ⟨i, hi, hr⟩
      · rw [Lib.splitB_miss _ _ _ _ hm, Lib.splitB_miss _ _ _ _ hm]; exact .inl rfl
      · right
        rw [Lib.splitB_hit _ _ _ _ i hi]
        refine ⟨rfl, ?_⟩
        cases hq : Lib.splitB (sepB c) 0 n (t.extract (i + (sepB c).size) t.size) with
        | nil => cases n <;> simp [Lib.splitB] at hq; split at hq <;> cases hq
        | cons x r => simp
  | succ m ih =>
    intro n t h
    cases n with
    | zero => omega
    | succ n =>
      rcases Lib.indexB_cases t (sepB c) with hm | ⟨i, hi, hr⟩
      · rw [Lib.splitB_miss _ _ _ _ hm, Lib.splitB_miss _ _ _ _ hm]; exact .inl rfl
      · rw [Lib.splitB_hit _ _ _ _ i hi, Lib.splitB_hit _ _ _ _ i hi]
        rcases ih n (t.extract (i + (sepB c).size) t.size) (by omega) with he | ⟨h1, h2⟩
        · exact .inl (by rw [he])
        · right; simp only [List.length_cons]; omega

/-- What is left of the pieces from place a on. -/
def restB (c : UInt8) (s : ByteArray) (a : Nat) : List ByteArray := Lib.splitB (sepB c) 0 (s.size - a) (s.extract a s.size)
theorem extract_all (s : ByteArray) : s.extract 0 s.size = s := by
  apply ByteArray.ext
  rw [ByteArray.data_extract]
  simp
theorem rest_zero (c : UInt8) (s : ByteArray) : restB c s 0 = piecesB c s := by
  unfold restB piecesB; rw [extract_all]; rfl
theorem extract_extract (s : ByteArray) (a b d e : Nat) (hb : b ≤ s.size) (he : a + e ≤ b) : (s.extract a b).extract d e = s.extract (a + d) (a + e) := by
  apply ByteArray.ext
  simp only [ByteArray.data_extract, Array.extract_extract]
  congr 1; omega
theorem rest_hit (c : UInt8) (s : ByteArray) (a i : Nat) (ha : a ≤ i) (hi : i < s.size) (hc : s[i] = c) (hn : ∀ j, a ≤ j → j < i → s.data.toList[j]? ≠ some c) :
    restB c s a = s.extract a i :: restB c s (i + 1) := by
  have hx := index_hit s c a i ha hi hc hn
  unfold restB
  obtain ⟨k, hk⟩ : ∃ k, s.size - a = k + 1 := ⟨s.size - a - 1, by omega⟩
  have hz := extract_size s a s.size (Nat.le_refl _)
  rw [hk, Lib.splitB_hit _ _ _ _ (i - a) hx, sepB_size, hz, extract_extract s a s.size 0 _ (Nat.le_refl _) (by omega), extract_extract s a s.size _ _ (Nat.le_refl _) (by omega)]
  congr 1
  · congr 1; omega
  · rw [show a + (i - a + 1) = i + 1 by omega, show a + (s.size - a) = s.size by omega]
    exact split_fuel c _ _ _ (by rw [extract_size _ _ _ (Nat.le_refl _)]; omega) (by rw [extract_size _ _ _ (Nat.le_refl _)]; omega)
theorem rest_end (c : UInt8) (s : ByteArray) (a : Nat) (ha : a ≤ s.size) (hn : ∀ j, a ≤ j → j < s.size → s.data.toList[j]? ≠ some c) : restB c s a = [s.extract a s.size] := by
  unfold restB; exact Lib.splitB_miss _ _ _ _ (index_miss s c a ha hn)
theorem pieces_len (c : UInt8) (s : ByteArray) : (piecesB c s).length ≤ s.size + 1 := Lib.splitB_length_le _ _ _ _
theorem rest_pos (c : UInt8) (s : ByteArray) (a : Nat) : 0 < (restB c s a).length := by
  unfold restB
  cases s.size - a with
  | zero => simp [Lib.splitB]
  | succ n => unfold Lib.splitB; split <;> simp
end
end Go.Proofs.YtglmibmjbignbaaGreatDoor
