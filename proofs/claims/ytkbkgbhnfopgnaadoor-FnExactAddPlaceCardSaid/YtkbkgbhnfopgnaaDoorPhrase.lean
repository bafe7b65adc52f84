/-
  The contracts of spec.l01Phrase and spec.IsPhrase. 'phraseB s': at most 8 pieces between blanks, each a word.
-/
import Derived.Test.YtkbkgbhnfopgnaaDoorSplit
namespace Go.Proofs.YtkbkgbhnfopgnaaDoor
set_option linter.unusedVariables false
open Go.RowKit

def spaceB (s : ByteArray) : List ByteArray := piecesB 32 s
def phraseB (s : ByteArray) : Bool := wordsB (spaceB s) && decide ((spaceB s).length ≤ 8)
theorem piece_size (c : UInt8) (k : Nat) : ∀ (s x : ByteArray), x ∈ Lib.splitB (sepB c) 0 k s → x.size ≤ s.size := by
  induction k with
  | zero => intro s x h; simp [Lib.splitB] at h; subst h; exact Nat.le_refl _
  | succ k ih =>
    intro s x h
    rcases Lib.indexB_cases s (sepB c) with hm | ⟨i, hi, hr⟩
    · rw [Lib.splitB_miss _ _ _ _ hm] at h; simp at h; subst h; exact Nat.le_refl _
    · rw [Lib.splitB_hit _ _ _ _ i hi, List.mem_cons] at h
      rcases h with h | h
      · subst h; rw [ByteArray.size_extract]; omega
      · have := ih _ _ h
        rw [ByteArray.size_extract] at this; omega

set_option maxHeartbeats 1000000 in
theorem cPhrase_bad (s : ByteArray) (w : World) (hs : s.size ≤ 1073741824) (h : wordsB (spaceB s) = false) :
    Calls Tryd.prog 89 #[.string s] w fun e w' => e = .returned (.tuple #[.slice none 0 0, .bool false]) ∧ Below w.heap.size w w' := by
  have hlen := pieces_len 32 s
  have hsz : ∀ x ∈ piecesB 32 s, x.size ≤ maxLen := fun x hx => by have := piece_size 32 _ s x hx; unfold maxLen; omega
  obtain ⟨xs, hxs⟩ : ∃ xs, xs = piecesB 32 s := ⟨_, rfl⟩
  have hc := cSplit 32 32 rfl s
  unfold spaceB at h
  rw [← hxs] at h hlen hsz hc
  clear hxs
  have H := Lib.hid h
  have HS := Lib.hid hsz
  have HCt := Lib.hid hc
  clear h hsz hc
  obtain ⟨n, hn⟩ : ∃ n, n = xs.length := ⟨_, rfl⟩
  have HN := Lib.hid hn
  go_enter Tryd.func89, Tryd.ntmps89
  rw [← hn] at hlen
  clear hn
  go_wp2_with fail
  refine (HCt.out _ hs).mono ?_
  rintro e w1 ⟨v, rfl, hown, hbw⟩
  have hpos : 0 < xs.length := by
    rcases Nat.eq_zero_or_pos xs.length with h0 | h0
    · have h1 := H.out
      rw [List.eq_nil_of_length_eq_zero h0] at h1; cases h1
    · exact h0
  rw [← HN.out] at hown hpos
  obtain ⟨g, cap, rfl, hg1, hg2⟩ := World.ownsRow.form hown hpos
  go_wp2_with fail
  go_loop [5] (fun i => ∃ k : Nat, k ≤ n ∧ i = .int .i64 k ∧ Hid (wordsB (xs.take k) = true)) (fun i => n - (intOf i).toNat)
  case atStart => exact ⟨0, Nat.zero_le _, rfl, Lib.hid rfl⟩
  case round =>
    obtain ⟨k, hk, rfl, HA⟩ := hrel
    by_cases hlt : k < n
    · obtain ⟨x, hx⟩ : ∃ x, xs[k]? = some x := ⟨xs[k]'(by have := HN.out; omega), List.getElem?_eq_getElem _⟩
      have hcx : w1.cell? ⟨g, k, none⟩ = some (.string x) := (hown.cellAt k (by omega)).trans (strV_at _ _ _ hx)
      have hsx := HS.out x (List.mem_of_getElem? hx)
      have HX := Lib.hid hx
      clear hx
      cases hb : wordB x
      · have HB := Lib.hid hb
        go_wp2_with (go_at_call 34; refine (cIsWord_spec x _ hsx).mono ?_; rintro e w' ⟨rfl, rfl⟩)
        go_ret2
        exact ⟨rfl, hbw⟩
      · have HB := Lib.hid hb
        go_wp2_with (go_at_call 34; refine (cIsWord_spec x _ hsx).mono ?_; rintro e w' ⟨rfl, rfl⟩)
        go_round
        case rel => exact ⟨k + 1, by omega, by go_num, Lib.hid (wordsB_step xs k x HX.out HA.out HB.out)⟩
        case measure => simp [intOf]; omega
    · exfalso
      have h1 := (wordsB_end xs k (by have := HN.out; omega)).symm.trans HA.out
      rw [H.out] at h1; cases h1

set_option maxHeartbeats 1000000 in
theorem cPhrase_ok (s : ByteArray) (w : World) (hs : s.size ≤ 1073741824) (h : wordsB (spaceB s) = true) :
    Calls Tryd.prog 89 #[.string s] w fun e w' => ∃ v, e = .returned (.tuple #[v, .bool (decide ((spaceB s).length ≤ 8))]) ∧
      w'.ownsRow w.heap.size 9 1 v (spaceB s).length (strV (spaceB s)) ∧ Below w.heap.size w w' := by
  have hlen := pieces_len 32 s
  have hsz : ∀ x ∈ piecesB 32 s, x.size ≤ maxLen := fun x hx => by have := piece_size 32 _ s x hx; unfold maxLen; omega
  have hpos : 0 < (piecesB 32 s).length := by rw [← rest_zero]; exact rest_pos _ _ _
  have hc := cSplit 32 32 rfl s
  unfold spaceB at *
  obtain ⟨xs, hxs⟩ : ∃ xs, xs = piecesB 32 s := ⟨_, rfl⟩
  rw [← hxs] at h hlen hsz hc hpos ⊢
  clear hxs
  have H := Lib.hid h
  have HS := Lib.hid hsz
  have HCt := Lib.hid hc
  clear h hsz hc
  obtain ⟨n, hn⟩ : ∃ n, n = xs.length := ⟨_, rfl⟩
  have HN := Lib.hid hn
  rw [← hn] at hlen hpos ⊢
  clear hn
  go_enter Tryd.func89, Tryd.ntmps89
  go_wp2_with fail
  refine (HCt.out _ hs).mono ?_
  rintro e w1 ⟨v, rfl, hown, hbw⟩
  rw [← HN.out] at hown
  obtain ⟨g, cap, rfl, hg1, hg2⟩ := World.ownsRow.form hown hpos
  go_wp2_with fail
  go_loop [5] (fun i => ∃ k : Nat, k ≤ n ∧ i = .int .i64 k) (fun i => n - (intOf i).toNat)
  case atStart => exact ⟨0, Nat.zero_le _, rfl⟩
  case round =>
    obtain ⟨k, hk, rfl⟩ := hrel
    by_cases hlt : k < n
    · obtain ⟨x, hx⟩ : ∃ x, xs[k]? = some x := ⟨xs[k]'(by have := HN.out; omega), List.getElem?_eq_getElem _⟩
      have hcx : w1.cell? ⟨g, k, none⟩ = some (.string x) := (hown.cellAt k (by omega)).trans (strV_at _ _ _ hx)
      have hsx := HS.out x (List.mem_of_getElem? hx)
      have hb : wordB x = true := by
        cases hb : wordB x
        · have h1 := wordsB_stop xs k x hx hb
          rw [H.out] at h1; cases h1
        · rfl
      clear hx
      go_wp2_with (go_at_call 34; refine (cIsWord_spec x _ hsx).mono ?_; rintro e w' ⟨rfl, rfl⟩)
      go_round
      case rel => exact ⟨k + 1, by omega, by go_num⟩
      case measure => simp [intOf]; omega
    · go_wp2
      go_ret2
      exact ⟨_, by simp; omega, hown, hbw⟩
end Go.Proofs.YtkbkgbhnfopgnaaDoor
