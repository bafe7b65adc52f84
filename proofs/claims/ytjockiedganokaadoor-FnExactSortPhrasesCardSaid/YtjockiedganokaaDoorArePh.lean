/-
  The contracts of impl.areAll with impl.IsPhrase, and of impl.arePhrases.
-/
import Derived.Test.YtjockiedganokaaDoorIsPhrase
namespace Go.Proofs.YtjockiedganokaaDoor
set_option linter.unusedVariables false
open Go.RowKit

def phrasesB (xs : List ByteArray) : Bool := xs.all phraseB
theorem phrasesB_step (xs : List ByteArray) (k : Nat) (x : ByteArray) (h : xs[k]? = some x) (ha : phrasesB (xs.take k) = true) (hc : phraseB x = true) : phrasesB (xs.take (k + 1)) = true := by
  have hk : k < xs.length := (List.getElem?_eq_some_iff.1 h).1
  have hx : xs[k] = x := (List.getElem?_eq_some_iff.1 h).2
  rw [List.take_succ_eq_append_getElem hk]; unfold phrasesB at *; simp [List.all_append, ha, hx, hc]
theorem phrasesB_stop (xs : List ByteArray) (k : Nat) (x : ByteArray) (h : xs[k]? = some x) (hc : phraseB x = false) : phrasesB xs = false := by
  unfold phrasesB; rw [List.all_eq_false]
  exact ⟨x, List.mem_of_getElem? h, by simp [hc]⟩
theorem phrasesB_end (xs : List ByteArray) (k : Nat) (h : xs.length ≤ k) : phrasesB (xs.take k) = phrasesB xs := by
  rw [List.take_of_length_le h]
theorem phrasesB_mem (xs : List ByteArray) (h : phrasesB xs = true) (x : ByteArray) (hx : x ∈ xs) : phraseB x = true := by
  unfold phrasesB at h; rw [List.all_eq_true] at h; exact h x hx

theorem cArePh_none (A : Option Addr) (c : Nat) (w : World) :
    Calls Tryd.prog 86 #[.slice A 0 c, .func (.func 104) #[] #[]] w fun e w' => e = .returned (.bool true) ∧ w = w' := by
  go_enter Tryd.func86, Tryd.ntmps86
  go_wp2
  refine wp_loop_rounds 1 ?_
  rw [rounds_succ]
  go_wp2
  go_ret
  exact ⟨rfl, rfl⟩

set_option maxHeartbeats 400000 in
theorem cAreAllP (b o c n : Nat) (xs : List ByteArray) (w : World) (hn : n = xs.length) (hbig : n ≤ 9223372036854775807) (hb : b < w.heap.size) (hs : ∀ x ∈ xs, x.size ≤ 1073741824) (hsh : w.ShapedOpen Tryd.prog)
    (hc : ∀ (j : Nat) x, xs[j]? = some x → w.cell? ⟨b, o + j, none⟩ = some (.string x)) :
    Calls Tryd.prog 86 #[.slice (some ⟨b, o, none⟩) n c, .func (.func 104) #[] #[]] w fun e w' => e = .returned (.bool (phrasesB xs)) ∧ Below w.heap.size w w' := by
  have HN := Lib.hid hn
  have HC := Lib.hid hc
  have HS := Lib.hid hs
  have HSH := Lib.hid hsh
  clear hn hc hs hsh
  go_enter Tryd.func86, Tryd.ntmps86
  go_wp2
  go_loopw [9] (fun i wr => ∃ k : Nat, k ≤ n ∧ i = .int .i64 k ∧ Hid (phrasesB (xs.take k) = true) ∧ Below w.heap.size w wr) (fun i _ => n - (intOf i).toNat)
  case atStart => exact ⟨0, Nat.zero_le _, rfl, Lib.hid rfl, Below.refl _ _⟩
  case round =>
    obtain ⟨k, hk, rfl, HA, hbw⟩ := hrel
    by_cases hlt : k < n
    · obtain ⟨x, hx⟩ : ∃ x, xs[k]? = some x := ⟨xs[k]'(by have := HN.out; omega), List.getElem?_eq_getElem _⟩
      have hcx := (hbw.cell (by exact hb)).trans (HC.out k x hx)
      have CP := Lib.hid (cIsPhrase_impl x wr (HS.out x (List.mem_of_getElem? hx)) (shaped_below HSH.out hbw))
      have HX := Lib.hid hx
      clear hx
      cases hb1 : phraseB x
      · have HB := Lib.hid hb1
        rw [hb1] at CP
        clear hb1
        go_wp2_with (go_at_call 104; refine CP.out.mono ?_; rintro e w1 ⟨rfl, hb2⟩)
        go_ret
        exact ⟨ret_bool (phrasesB_stop xs k x HX.out HB.out).symm, hbw.trans (hb2.mono hbw.size)⟩
      · have HB := Lib.hid hb1
        rw [hb1] at CP
        clear hb1
        go_wp2_with (go_at_call 104; refine CP.out.mono ?_; rintro e w1 ⟨rfl, hb2⟩)
        go_roundw
        case rel => exact ⟨k + 1, by omega, by go_num, Lib.hid (phrasesB_step xs k x HX.out HA.out HB.out), hbw.trans (hb2.mono hbw.size)⟩
        case measure => simp [intOf]; omega
    · go_wp2
      go_ret
      exact ⟨ret_bool ((phrasesB_end xs k (by have := HN.out; omega)).symm.trans HA.out).symm, hbw⟩
/-- impl.arePhrases at any slice of texts. -/
theorem tArePh (A : Option Addr) (n c : Nat) (xs : List ByteArray) (w : World) (hbig : n ≤ 9223372036854775807) (hs : ∀ x ∈ xs, x.size ≤ 1073741824) (hsh : w.ShapedOpen Tryd.prog) (h : n = xs.length) (hr : 0 < n → ∃ b o, A = some ⟨b, o, none⟩ ∧ b < w.heap.size ∧ ∀ (j : Nat) x, xs[j]? = some x → w.cell? ⟨b, o + j, none⟩ = some (.string x)) :
    Calls Tryd.prog 70 #[.slice A n c] w fun e w' => e = .returned (.bool (phrasesB xs)) ∧ Below w.heap.size w w' := by
  have CA : Calls Tryd.prog 86 #[.slice A n c, .func (.func 104) #[] #[]] w fun e w' => e = .returned (.bool (phrasesB xs)) ∧ Below w.heap.size w w' := by
    rcases Nat.eq_zero_or_pos n with rfl | hp
    · obtain rfl : xs = [] := List.eq_nil_of_length_eq_zero h.symm
      exact (cArePh_none A c w).mono fun e w' ⟨he, hw⟩ => ⟨he, hw ▸ Below.refl _ _⟩
    · obtain ⟨b, o, rfl, hb, hc⟩ := hr hp
      exact cAreAllP b o c n xs w h hbig hb hs hsh hc
  have CB := Lib.hid CA
  clear CA hr hs hsh h hbig
  generalize phrasesB xs = r at CB ⊢
  go_enter Tryd.func70, Tryd.ntmps70
  go_wp2_with (go_at_call 86; refine CB.out.mono ?_; rintro e w1 ⟨rfl, hb1⟩)
  go_ret
  exact ⟨rfl, hb1⟩
end Go.Proofs.YtjockiedganokaaDoor
