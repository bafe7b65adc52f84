/-
  The contracts of spec.ReadAlphabet and impl.ReadAlphabet.
-/
import Derived.Test.YtnodnjaajaemcabDoorIsPhrase
import Derived.Test.YtnodnjaajaemcabDoorAlphaI
import Derived.Laws.Rows
namespace Go.Proofs.YtnodnjaajaemcabDoor
set_option linter.unusedVariables false
open Go.RowKit

/-- What strings.SplitN at 41 gives decides whether s is the text of an alphabet. -/
theorem alpha_41 (s : ByteArray) (Q : List ByteArray) (hq : Q = Lib.splitB (sepB 32) 0 (min 41 (s.size + 1) - 1) s) :
    (Q = spaceB s ∨ (alphaB Q = false ∧ alphaB (spaceB s) = false)) ∧ Q.length ≤ min 41 (s.size + 1) ∧ 0 < Q.length := by
  have hl : Q.length ≤ (min 41 (s.size + 1) - 1) + 1 := by rw [hq]; exact Lib.splitB_length_le _ _ _ _
  have h0 : 0 < (spaceB s).length := by unfold spaceB; rw [← rest_zero]; exact rest_pos _ _ _
  rcases split_some 32 (min 41 (s.size + 1) - 1) s.size s (by omega) with h | ⟨h1, h2⟩
  · have hq' : Q = spaceB s := hq.trans h
    exact ⟨.inl hq', by omega, by rw [hq']; exact h0⟩
  · have hm : min 41 (s.size + 1) - 1 = 40 := by
      by_cases e : 41 ≤ s.size + 1
      · omega
      · have e1 : min 41 (s.size + 1) - 1 = s.size := by omega
        rw [e1] at h1 h2
        omega
    rw [hm] at h1 h2 hq
    have hq41 : Q.length = 41 := by rw [hq]; exact h1
    have hp : 40 < (spaceB s).length := by show 40 < (Lib.splitB (sepB 32) 0 s.size s).length; omega
    exact ⟨.inr ⟨alpha_long Q (by omega), alpha_long _ hp⟩, by omega, by omega⟩
theorem cells_own (w : World) (Q : List ByteArray) (N : Nat) (hN : Q.length ≤ N) (hm : N ≤ maxLen) :
    (w.alloc (.cells (Lib.cellsOf Q N) 9)).ownsRow w.heap.size 9 1 (.slice (some ⟨w.heap.size, 0, none⟩) Q.length N) Q.length (strV Q) := by
  refine ⟨by simp [strV], .inr ⟨w.heap.size, N, Lib.cellsOf Q N, rfl, Nat.le_refl _, heap_alloc_new w _, hN, hm, ?_, ?_⟩⟩
  · unfold Lib.cellsOf; simp; omega
  · unfold Lib.cellsOf strV
    rw [Nat.mul_one]
    simp
theorem below_gr {w w' : World} (h : Below w.heap.size w w') (row : Option Nat) : w.grownBy w' row := ⟨h.os, h.tape, h.output, h.size, fun k hk _ => h.block k hk⟩
def ReadOut (xs : List ByteArray) (w : World) (e : Ending) (w' : World) : Prop :=
  ∃ g c, e = .returned (.tuple #[.slice (some ⟨g, 0, none⟩) xs.length c, .int .i64 0]) ∧ w.heap.size ≤ g ∧ g < w'.heap.size ∧
    w'.ownsRow w.heap.size 9 1 (.slice (some ⟨g, 0, none⟩) xs.length c) xs.length (strV xs) ∧ Below w.heap.size w w'
def ReadNo (w : World) (e : Ending) (w' : World) : Prop := e = .returned (.tuple #[.slice none 0 0, .int .i64 6]) ∧ Below w.heap.size w w'

theorem cReadAl_spec (s : ByteArray) (w : World) (hs : s.size ≤ 1073741824) :
    Calls Tryd.prog 6 #[.string s] w fun e w' => (alphaB (spaceB s) = false → ReadNo w e w') ∧ (alphaB (spaceB s) = true → ReadOut (spaceB s) w e w') := by
  have hl0 : 0 < (spaceB s).length := by unfold spaceB; rw [← rest_zero]; exact rest_pos _ _ _
  have hsz : ∀ x ∈ spaceB s, x.size ≤ maxLen := fun x hx => by have := piece_size 32 _ s x hx; unfold maxLen; omega
  have HS := Lib.hid hsz
  have CS := Lib.hid (cSplit 32 32 rfl s w hs)
  have hls : (spaceB s).length ≤ s.size + 1 := Lib.splitB_length_le _ _ _ _
  change Hid (Calls _ _ _ _ fun e w' => ∃ v, e = .returned v ∧ w'.ownsRow w.heap.size _ 1 v (spaceB s).length (strV (spaceB s)) ∧ Below w.heap.size w w') at CS
  obtain ⟨xs, hxs⟩ : ∃ xs, xs = spaceB s := ⟨_, rfl⟩
  rw [← hxs] at CS HS hl0 hls ⊢
  clear hxs hsz
  cases ha : alphaB xs
  all_goals
    have HA := Lib.hid ha
    clear ha
    go_enter Tryd.func6, Tryd.ntmps6
    go_wp2_with fail
    refine CS.out.mono ?_
    rintro e w1 ⟨v, rfl, hown, hb⟩
    obtain ⟨g, c, rfl, hg, hgl⟩ := World.ownsRow.form hown hl0
    have CA := Lib.hid (cIsAlpha_spec g 0 c xs.length xs w1 rfl (by unfold maxLen; omega) HS.out (fun j x hx => by rw [Nat.zero_add]; exact (hown.cellAt j (by have := (List.getElem?_eq_some_iff.1 hx).1; omega)).trans (strV_at _ _ _ hx)))
    rw [HA.out] at CA
    have HO := Lib.hid hown
    clear hown
    go_wp2_with fail
    refine CA.out.mono ?_
    rintro e w' ⟨rfl, rfl⟩
    go_wp2_with fail
    go_ret2
  · exact ⟨fun _ => ⟨rfl, hb⟩, fun h => (by cases h)⟩
  · exact ⟨fun h => (by cases h), fun _ => ⟨g, c, rfl, hg, hgl, HO.out, hb⟩⟩

set_option maxHeartbeats 400000 in
theorem cReadAl (s : ByteArray) (w : World) (hs : s.size ≤ 1073741824) (hsh : w.ShapedOpen Tryd.prog) :
    Calls Tryd.prog 7 #[.string s] w fun e w' => (alphaB (spaceB s) = false → ReadNo w e w') ∧ (alphaB (spaceB s) = true → ReadOut (spaceB s) w e w') := by
  have hc := Tryd.strings_SplitN_shaped s (sepB 32) 41 w hsh (by omega) (by decide) (by decide) (by decide)
  have hsz : ∀ x ∈ Lib.splitB (sepB 32) 0 (min 41 (s.size + 1) - 1) s, x.size ≤ maxLen := fun x hx => by have := piece_size 32 _ s x hx; unfold maxLen; omega
  obtain ⟨Q, hQ⟩ : ∃ Q, Q = Lib.splitB (sepB 32) 0 (min 41 (s.size + 1) - 1) s := ⟨_, rfl⟩
  obtain ⟨h1, h2, h3⟩ := alpha_41 s Q hQ
  obtain ⟨N, hN⟩ : ∃ N, N = min 41 (s.size + 1) := ⟨_, rfl⟩
  rw [← hQ] at hc hsz
  rw [← hN] at hc h2
  have hN41 : N ≤ 41 := by omega
  have HP := Lib.hid h1
  have HS := Lib.hid hsz
  have HC := Lib.hid hc
  have HO := Lib.hid (cells_own w Q N h2 (by unfold maxLen; omega))
  clear h1 hc hsz hsh hQ hN
  have CA := Lib.hid (cIsAlpha w.heap.size 0 N Q.length Q (w.alloc (.cells (Lib.cellsOf Q N) 9)) rfl h3 (by unfold maxLen; omega) HS.out (by simp) (fun j x hx => by
    rw [Nat.zero_add, World.cell?_alloc_at _ _ _ _ rfl]
    exact cellsOf_at _ _ _ _ hx))
  cases ha : alphaB Q
  all_goals
    rw [ha] at CA
    have HA := Lib.hid ha
    clear ha
    go_enter Tryd.func7, Tryd.ntmps7
    go_wp2_with fail
    refine (show Calls Tryd.prog 22 #[.string s, .string (sepB 32), .int .i64 41] _ _ from HC.out).mono ?_
    rintro e w1 ⟨rfl, rfl⟩
    go_wp2_with fail
    refine CA.out.mono ?_
    rintro e w2 ⟨rfl, hb2⟩
    have hb : Below w.heap.size w w2 := ((Below.refl _ w).alloc (Nat.le_refl _) _).trans (hb2.mono (by simp))
    have hl2 : w.heap.size < w2.heap.size := by have := hb2.size; simp at this; omega
    have HO2 := Lib.hid (HO.out.kept (below_gr hb2 none) (by simp [Value.ownBlock]))
    go_wp2_with fail
    go_ret2
  · refine ⟨fun _ => ⟨rfl, hb⟩, fun h => ?_⟩
    rcases HP.out with h4 | ⟨_, h4⟩
    · have := HA.out; rw [h4] at this; rw [this] at h; cases h
    · rw [h4] at h; cases h
  · have hq : Q = spaceB s := by
      rcases HP.out with h4 | ⟨h4, _⟩
      · exact h4
      · have := HA.out; rw [h4] at this; cases this
    refine ⟨fun h => ?_, fun _ => ?_⟩
    · rw [← hq, HA.out] at h; cases h
    · rw [← hq]; exact ⟨w.heap.size, N, rfl, Nat.le_refl _, hl2, HO2.out, hb⟩
end Go.Proofs.YtnodnjaajaemcabDoor
