/-
  The contracts of spec.WordsOf and impl.WordsOf: the pieces between blanks of a phrase, and the code.
-/
import Derived.Test.YtippjomkbpiliaaDoorIsPhrase
namespace Go.Proofs.YtippjomkbpiliaaDoor
set_option linter.unusedVariables false
open Go.RowKit

theorem phraseB_parts (s : ByteArray) (h : phraseB s = true) : wordsB (spaceB s) = true ∧ (spaceB s).length ≤ 8 := by
  unfold phraseB at h; simpa using h
theorem space_pos (s : ByteArray) : 0 < (spaceB s).length := by unfold spaceB; rw [← rest_zero]; exact rest_pos _ _ _

theorem split_count (c : UInt8) : ∀ (k : Nat) (t : ByteArray), t.size ≤ k → Lib.splitB (sepB c) 0 (Lib.countB t (sepB c)) t = Lib.splitB (sepB c) 0 k t ∧ (Lib.splitB (sepB c) 0 k t).length = Lib.countB t (sepB c) + 1 := by
  intro k
  induction k with
  | zero =>
    intro t h
    rcases Lib.indexB_cases t (sepB c) with hm | ⟨i, hi, hr⟩
    · rw [Lib.splitB_miss _ _ _ _ hm, Lib.splitB_miss _ _ _ _ hm, Lib.countB_miss _ _ hm]; exact ⟨rfl, rfl⟩
    · rw [sepB_size] at hr; omega
  | succ k ih =>
    intro t h
    rcases Lib.indexB_cases t (sepB c) with hm | ⟨i, hi, hr⟩
    · rw [Lib.splitB_miss _ _ _ _ hm, Lib.splitB_miss _ _ _ _ hm, Lib.countB_miss _ _ hm]; exact ⟨rfl, rfl⟩
    · rw [sepB_size] at hr
      have hz := extract_size t (i + (sepB c).size) t.size (Nat.le_refl _)
      have h2 := ih (t.extract (i + (sepB c).size) t.size) (by rw [hz, sepB_size]; omega)
      rw [Lib.countB_hit t (sepB c) i (by rw [sepB_size]; omega) hi, Nat.add_comm 1 (Lib.countB _ _), Lib.splitB_hit _ _ _ _ i hi, Lib.splitB_hit _ _ _ _ i hi, h2.1]
      exact ⟨rfl, by simp only [List.length_cons]; rw [h2.2]⟩
theorem space_count (s : ByteArray) : Lib.splitB (sepB 32) 0 (Lib.countB s (sepB 32)) s = spaceB s ∧ (spaceB s).length = Lib.countB s (sepB 32) + 1 := split_count 32 s.size s (Nat.le_refl _)

theorem cWordsOf_impl_bad (s : ByteArray) (w : World) (hs : s.size ≤ 1073741824) (hsh : w.ShapedOpen Tryd.prog) (h : phraseB s = false) :
    Calls Tryd.prog 29 #[.string s] w fun e w' => e = .returned (.tuple #[.slice none 0 0, .int .i64 1]) ∧ Below w.heap.size w w' := by
  have HC := Lib.hid (cIsPhrase_impl s w hs hsh)
  rw [h] at HC
  clear h hsh
  go_enter Tryd.func29, Tryd.ntmps29
  go_wp2_with fail
  refine HC.out.mono ?_
  rintro e w1 ⟨rfl, hb⟩
  go_wp2_with fail
  go_ret2
  exact ⟨rfl, hb⟩

/-- strings.Split at a blank. -/
theorem cSplitLib (s : ByteArray) (w : World) (hs : s.size ≤ 1073741824) (hsh : w.ShapedOpen Tryd.prog) :
    Calls Tryd.prog 46 #[.string s, .string (sepB 32)] w fun e w' => e = .returned (.slice (some ⟨w.heap.size, 0, none⟩) (spaceB s).length (spaceB s).length) ∧ w' = w.alloc (.cells (strV (spaceB s)).toArray 9) := by
  have h := Tryd.strings_Split_shaped s (sepB 32) w hsh (by omega) (by decide)
  have hc := space_count s
  rw [hc.1, ← hc.2] at h
  exact h

theorem cWordsOf_impl_ok (s : ByteArray) (w : World) (hs : s.size ≤ 1073741824) (hsh : w.ShapedOpen Tryd.prog) (h : phraseB s = true) :
    Calls Tryd.prog 29 #[.string s] w fun e w' => ∃ g, e = .returned (.tuple #[.slice (some ⟨g, 0, none⟩) (spaceB s).length (spaceB s).length, .int .i64 0]) ∧
      w.heap.size ≤ g ∧ g < w'.heap.size ∧ w'.ownsRow w.heap.size 9 1 (.slice (some ⟨g, 0, none⟩) (spaceB s).length (spaceB s).length) (spaceB s).length (strV (spaceB s)) ∧ Below w.heap.size w w' := by
  have HC := Lib.hid (cIsPhrase_impl s w hs hsh)
  rw [h] at HC
  have HS := Lib.hid (fun W => cSplitLib s W hs)
  have hl := (phraseB_parts s h).2
  have HSH := Lib.hid hsh
  obtain ⟨xs, hxs⟩ : ∃ xs, xs = spaceB s := ⟨_, rfl⟩
  rw [← hxs] at HS hl ⊢
  clear hxs h hsh
  obtain ⟨n, hn⟩ : ∃ n, n = xs.length := ⟨_, rfl⟩
  rw [← hn] at HS hl ⊢
  have HN := Lib.hid hn
  clear hn
  go_enter Tryd.func29, Tryd.ntmps29
  go_wp2_with fail
  refine HC.out.mono ?_
  rintro e w1 ⟨rfl, hb⟩
  go_wp2_with fail
  refine (show Calls Tryd.prog 46 #[.string s, .string (sepB 32)] _ _ from HS.out _ (shaped_below HSH.out hb)).mono ?_
  rintro e w2 ⟨rfl, rfl⟩
  go_wp2_with fail
  go_ret2
  have hown := World.ownsRow_lit (e := 9) (base := w.heap.size) (size := 1) w1 (strV xs).toArray n hb.size (by unfold maxLen; omega) (by simp [strV, HN.out])
  exact ⟨_, rfl, hb.size, by simp, by simpa using hown, hb.alloc hb.size _⟩
end Go.Proofs.YtippjomkbpiliaaDoor
