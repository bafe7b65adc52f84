/-
  The contract of impl.IsPhrase: it returns 'phraseB s'.
-/
import Derived.Test.YtkbkgbhnfopgnaaDoorPhrase
import Derived.Test.YtkbkgbhnfopgnaaDoorShelf
import Derived.ChangeAgain
namespace Go.Proofs.YtkbkgbhnfopgnaaDoor
section
set_option linter.unusedVariables false
open Go.RowKit

theorem shaped_below {P : Program} {w w' : World} (h : w.ShapedOpen P) (hb : Below w.heap.size w w') : w'.ShapedOpen P := h.keptBut (hb.frame (fun _ => False)) (fun _ f => f.elim)
theorem phrase_bad (s : ByteArray) (h : wordsB (spaceB s) = false) : phraseB s = false := by unfold phraseB; rw [h]; rfl
theorem phrase_ok (s : ByteArray) (h : wordsB (spaceB s) = true) : phraseB s = decide ((spaceB s).length ≤ 8) := by unfold phraseB; rw [h]; rfl

/-- What strings.SplitN at 9 gives decides whether s is a phrase. -/
theorem phrase_nine (s : ByteArray) : let Q := Lib.splitB (sepB 32) 0 (min 9 (s.size + 1) - 1) s
    phraseB s = (decide (Q.length ≤ 8) && wordsB Q) ∧ Q.length ≤ 9 := by
  intro Q
  have hl : Q.length ≤ (min 9 (s.size + 1) - 1) + 1 := Lib.splitB_length_le _ _ _ _
  refine ⟨?_, by omega⟩
  rcases split_some 32 (min 9 (s.size + 1) - 1) s.size s (by omega) with h | ⟨h1, h2⟩
  · have hq : Q = spaceB s := h
    rw [hq]; unfold phraseB; rw [Bool.and_comm]
  · have hm : min 9 (s.size + 1) - 1 = 8 := by
      by_cases e : 9 ≤ s.size + 1
      · omega
      · have e1 : min 9 (s.size + 1) - 1 = s.size := by omega
        rw [e1] at h1 h2
        omega
    rw [hm] at h1 h2
    have hq : Q.length = 9 := by show (Lib.splitB (sepB 32) 0 (min 9 (s.size + 1) - 1) s).length = 9; rw [hm]; exact h1
    have hp : (8 : Nat) < (spaceB s).length := by show 8 < (Lib.splitB (sepB 32) 0 s.size s).length; omega
    unfold phraseB
    rw [decide_eq_false (show ¬ (spaceB s).length ≤ 8 by omega), decide_eq_false (show ¬ Q.length ≤ 8 by omega)]
    simp

theorem cellsOf_at (Q : List ByteArray) (N j : Nat) (x : ByteArray) (h : Q[j]? = some x) : (Lib.cellsOf Q N)[j]? = some (.string x) := by
  have hj := (List.getElem?_eq_some_iff.1 h).1
  unfold Lib.cellsOf
  rw [List.getElem?_toArray, List.getElem?_append_left (by simpa using hj)]
  simp [h]

set_option maxHeartbeats 400000 in
theorem cIsPhrase_impl (s : ByteArray) (w : World) (hs : s.size ≤ 1073741824) (hsh : w.ShapedOpen Tryd.prog) :
    Calls Tryd.prog 98 #[.string s] w fun e w' => e = .returned (.bool (phraseB s)) ∧ Below w.heap.size w w' := by
  obtain ⟨hp, h9⟩ := phrase_nine s
  have hc := Tryd.strings_SplitN_shaped s (sepB 32) 9 w hsh (by omega) (by decide) (by decide) (by decide)
  have hsz : ∀ x ∈ Lib.splitB (sepB 32) 0 (min 9 (s.size + 1) - 1) s, x.size ≤ maxLen := fun x hx => by have := piece_size 32 _ s x hx; unfold maxLen; omega
  obtain ⟨Q, hQ⟩ : ∃ Q, Q = Lib.splitB (sepB 32) 0 (min 9 (s.size + 1) - 1) s := ⟨_, rfl⟩
  obtain ⟨N, hN⟩ : ∃ N, N = min 9 (s.size + 1) := ⟨_, rfl⟩
  rw [← hQ] at hp h9 hc hsz
  rw [← hN] at hc
  clear hQ hN
  obtain ⟨n, hn⟩ : ∃ n, n = Q.length := ⟨_, rfl⟩
  rw [← hn] at h9 hc hp
  have HP := Lib.hid hp
  have HN := Lib.hid hn
  have HC := Lib.hid hc
  have HS := Lib.hid hsz
  clear hp hn hc hsz hsh
  by_cases h8 : n ≤ 8
  · have hd : decide ((n : Int) ≤ 8) = true := decide_eq_true (by omega)
    go_enter Tryd.func98, Tryd.ntmps98
    go_wp2_with fail
    refine (show Calls Tryd.prog 102 #[.string s, .string (sepB 32), .int .i64 9] _ _ from HC.out).mono ?_
    rintro e w1 ⟨rfl, rfl⟩
    go_wp2_with fail
    refine (cAreWords w.heap.size 0 _ n Q _ HN.out (by omega) HS.out ?_).mono ?_
    · intro j x hx
      rw [Nat.zero_add, World.cell?_alloc_at _ _ _ _ rfl]
      exact cellsOf_at _ _ _ _ hx
    rintro e w1 ⟨rfl, rfl⟩
    go_wp2_with fail
    go_ret
    exact ⟨ret_bool (by rw [HP.out, decide_eq_true h8]; simp), by go_grown⟩
  · have hd : decide ((n : Int) ≤ 8) = false := decide_eq_false (by omega)
    go_enter Tryd.func98, Tryd.ntmps98
    go_wp2_with fail
    refine (show Calls Tryd.prog 102 #[.string s, .string (sepB 32), .int .i64 9] _ _ from HC.out).mono ?_
    rintro e w1 ⟨rfl, rfl⟩
    go_wp2_with fail
    go_ret
    exact ⟨ret_bool (by rw [HP.out, decide_eq_false h8]; simp), by go_grown⟩
end
section
set_option linter.unusedVariables false
open Go.RowKit

theorem cIsPhrase_spec (s : ByteArray) (w : World) (hs : s.size ≤ 1073741824) :
    Calls Tryd.prog 82 #[.string s] w fun e w' => e = .returned (.bool (phraseB s)) ∧ Below w.heap.size w w' := by
  cases h : wordsB (spaceB s)
  · have HP := Lib.hid (phrase_bad s h)
    have H := Lib.hid h
    clear h
    go_enter Tryd.func82, Tryd.ntmps82
    go_wp2_with fail
    refine (cPhrase_bad s _ hs H.out).mono ?_
    rintro e w1 ⟨rfl, hb⟩
    go_wp2_with fail
    go_ret
    exact ⟨ret_bool HP.out.symm, hb⟩
  · have HP := Lib.hid (phrase_ok s h)
    have H := Lib.hid h
    clear h
    have hc := cPhrase_ok s
    rw [← HP.out] at hc
    have HC := Lib.hid hc
    clear hc
    go_enter Tryd.func82, Tryd.ntmps82
    go_wp2_with fail
    refine (HC.out _ hs H.out).mono ?_
    rintro e w1 ⟨v, rfl, hown, hb⟩
    go_wp2_with fail
    go_ret
    exact ⟨rfl, hb⟩

end
end Go.Proofs.YtkbkgbhnfopgnaaDoor
