/-
  The contract of the laws' toStringS once more: its answer as a slice that impl.keysOf takes.
-/
import Derived.Test.YtjockiedganokaaDoorTexts
import Derived.Test.YtjockiedganokaaDoorConcat
namespace Go.Proofs.YtjockiedganokaaDoor
set_option linter.unusedVariables false
open Go.RowKit

theorem TextAt.row2 {w : World} {B n : Nat} {A : Option Addr} {xs : List ByteArray} (h : TextAt w B A n xs) {k : Nat} {x : ByteArray} (hx : xs[k]? = some x) :
    ∃ b o, A = some ⟨b, o, none⟩ ∧ b < B ∧ w.cell? ⟨b, o + k, none⟩ = some (.string x) := by
  have := (List.getElem?_eq_some_iff.1 hx).1
  obtain ⟨b, o, h1, h2, h3⟩ := h.2 (by have := h.1; omega)
  exact ⟨b, o, h1, h2, h3 k x hx⟩

theorem cToS_none2 (A : Option Addr) (cap : Nat) (w : World) :
    Calls Tryd.prog 23 #[.slice A 0 cap] w fun e w' => e = .returned (.slice (some ⟨w.heap.size, 0, none⟩) 0 0) ∧ w.heap.size < w'.heap.size ∧ Below w.heap.size w w' := by
  obtain ⟨i0, hi0, hz0, hz1, hz2⟩ := info_parts info_str0
  go_enter Tryd.func23, Tryd.ntmps23
  go_wp2_with (at_make; refine wpList_make_full _ rfl _ _ 24 rfl w.heap.size 9 i0 _ 1 Tryd.underlying24 hi0 hz0 hz1 _ _ _ _ 0 rfl rfl (by simp) (by simp) ?b2 ?b3 (Nat.le_refl _) ?_)
  case b2 => rw [hz2]; omega
  case b3 => unfold maxLen; omega
  intro w0 hown0 hgrow0
  have hb0 : Below w.heap.size w w0 := (Below.refl _ _).grown hgrow0 (Nat.le_refl _) (fun k h => by cases h)
  have hl0 : w.heap.size < w0.heap.size := (hown0.lt _ rfl).2
  clear hown0 hgrow0
  go_wp2
  refine wp_loop_rounds 1 ?_
  rw [rounds_succ]
  go_wp2
  go_ret
  exact ⟨rfl, hl0, hb0⟩
theorem tToS2 (A : Option Addr) (n cap : Nat) (xs : List ByteArray) (w : World) (hbig : n ≤ 1048576) (h : TextAt w w.heap.size A n xs) :
    Calls Tryd.prog 23 #[.slice A n cap] w fun e w' => e = .returned (.slice (some ⟨w.heap.size, 0, none⟩) n n) ∧ SrcT w' (some ⟨w.heap.size, 0, none⟩) n n xs ∧ Below w.heap.size w w' := by
  rcases Nat.eq_zero_or_pos n with rfl | hp
  · refine (cToS_none2 A cap w).mono ?_
    rintro e w' ⟨rfl, hl, hb⟩
    have hx : xs = [] := List.eq_nil_of_length_eq_zero h.1.symm
    subst hx
    exact ⟨rfl, .inr ⟨_, 0, rfl, hl, rfl, fun j x hx => by simp at hx⟩, hb⟩
  · refine (tToS A n cap xs w hbig h).mono ?_
    rintro e w' ⟨rfl, _, own0, hbw⟩
    have own := own0 hp
    refine ⟨rfl, .inr ⟨_, 0, rfl, (own.lt _ rfl).2, h.1, fun j x hx => ?_⟩, hbw⟩
    rw [Nat.zero_add]
    exact (own.cellAt j (by have := (List.getElem?_eq_some_iff.1 hx).1; have := h.1; omega)).trans (vals_at _ _ _ hx)
/-- What szStringS answers for a second slice. -/
theorem tSz2 (A : Option Addr) (n cap B : Nat) (xs : List ByteArray) (r : Int) (hr0 : 0 ≤ r) (hr1 : r ≤ 1048576) (w : World) (hm : n ≤ maxLen) (hs : ∀ x ∈ xs, x.size ≤ maxLen) (h : TextAt w B A n xs) :
    Calls Tryd.prog 22 #[.slice A n cap, .int .i64 r] w (SomeR (SmallS n xs) w) := by
  unfold maxLen at hm
  have HT := Lib.hid h
  have HN := Lib.hid h.1
  have HS := Lib.hid hs
  clear h hs
  by_cases h1 : r < n
  · go_enter Tryd.func22, Tryd.ntmps22
    go_wp2
    go_ret
    exact ⟨-1, ⟨by omega, .inl (by omega)⟩, rfl, rfl⟩
  go_enter Tryd.func22, Tryd.ntmps22
  go_wp2
  go_loop [1, 5] (fun l i => ∃ (k : Nat) (r : Int), k ≤ n ∧ i = .int .i64 k ∧ l = .int .i64 r ∧ 0 ≤ r ∧ r ≤ 1048576 ∧ Hid (∀ x ∈ xs.take k, x.size ≤ 1048576)) (fun _ i => n - (intOf i).toNat)
  case atStart => exact ⟨0, _, Nat.zero_le _, rfl, rfl, by omega, by omega, Lib.hid (by simp)⟩
  case round =>
    obtain ⟨k, r, hk, rfl, rfl, hr0, hr1, HA⟩ := hrel
    by_cases hlt : k < n
    · obtain ⟨x, hx⟩ : ∃ x, xs[k]? = some x := ⟨xs[k]'(by have := HN.out; omega), List.getElem?_eq_getElem _⟩
      obtain ⟨b, o, rfl, _, hcx⟩ := HT.out.row2 hx
      have hsx := HS.out x (List.mem_of_getElem? hx)
      unfold maxLen at hsx
      have HX := Lib.hid hx
      clear hx
      by_cases h2 : r < x.size
      · go_wp2
        go_ret
        exact ⟨-1, ⟨by omega, .inl (by omega)⟩, rfl, rfl⟩
      · have h2' : (x.size : Int) ≤ r := by omega
        go_wp2
        go_round
        case rel => exact ⟨k + 1, _, by omega, by go_num, rfl, by omega, by omega, Lib.hid (by
          have hl := (List.getElem?_eq_some_iff.1 HX.out).1
          have he : xs[k] = x := (List.getElem?_eq_some_iff.1 HX.out).2
          rw [List.take_succ_eq_append_getElem hl, he]
          intro y hy
          rw [List.mem_append, List.mem_singleton] at hy
          rcases hy with hy | rfl
          · exact HA.out y hy
          · omega)⟩
        case measure => simp [intOf]; omega
    · have hall : xs.take k = xs := List.take_of_length_le (by have := HN.out; omega)
      have hfin : SmallS n xs r := ⟨hr1, .inr ⟨by omega, by rw [← hall]; exact HA.out⟩⟩
      have HF := Lib.hid hfin
      clear hall hfin
      go_wp2
      go_ret
      exact ⟨r, HF.out, rfl, rfl⟩
end Go.Proofs.YtjockiedganokaaDoor
