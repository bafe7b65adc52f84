/-
  The laws' helpers on slices of texts: szStringS, toStringS, eqStringS, markStringS on rows of one's own.
-/
import Derived.Test.YtjofndiofacjjaaDoorSp
import Derived.Test.YtjofndiofacjjaaDoorTexts
import Derived.Test.YtjofndiofacjjaaDoorMarkS
namespace Go.Proofs.YtjofndiofacjjaaDoor
set_option linter.unusedVariables false
open Go.RowKit

theorem TextAt.row2 {w : World} {B n : Nat} {A : Option Addr} {xs : List ByteArray} (h : TextAt w B A n xs) {k : Nat} {x : ByteArray} (hx : xs[k]? = some x) :
    ∃ b o, A = some ⟨b, o, none⟩ ∧ b < B ∧ w.cell? ⟨b, o + k, none⟩ = some (.string x) := by
  have := (List.getElem?_eq_some_iff.1 hx).1
  obtain ⟨b, o, h1, h2, h3⟩ := h.2 (by have := h.1; omega)
  exact ⟨b, o, h1, h2, h3 k x hx⟩

/-- What szStringS answers for a second slice. -/
theorem tSz2 (A : Option Addr) (n cap B : Nat) (xs : List ByteArray) (r : Int) (hr0 : 0 ≤ r) (hr1 : r ≤ 1048576) (w : World) (hm : n ≤ maxLen) (hs : ∀ x ∈ xs, x.size ≤ maxLen) (h : TextAt w B A n xs) :
    Calls Tryd.prog 29 #[.slice A n cap, .int .i64 r] w (SomeR (SmallS n xs) w) := by
  unfold maxLen at hm
  have HT := Lib.hid h
  have HN := Lib.hid h.1
  have HS := Lib.hid hs
  clear h hs
  by_cases h1 : r < n
  · go_enter Tryd.func29, Tryd.ntmps29
    go_wp2
    go_ret
    exact ⟨-1, ⟨by omega, .inl (by omega)⟩, rfl, rfl⟩
  go_enter Tryd.func29, Tryd.ntmps29
  go_wp2
  go_loop [1, 5] (fun l i => ∃ (k : Nat) (r : Int), k ≤ n ∧ i = .int .i64 k ∧ l = .int .i64 r ∧ 0 ≤ r ∧ r ≤ 1048576 ∧ Hid (∀ x ∈ xs.take k, x.size ≤ 1048576)) (fun _ i => n - (intOf i).toNat)
  case atStart => exact ⟨0, _, Nat.zero_le _, rfl, rfl, by omega, by omega, Lib.hid (by simp)⟩
  case round =>
    obtain ⟨k, r, hk, rfl, rfl, hr0, hr1, HA⟩ := hrel
    by_cases hlt : k < n
    · obtain ⟨x, hx⟩ : ∃ x, xs[k]? = some x := ⟨xs[k]'(by have := HN.out; omega), List.getElem?_eq_getElem _⟩
      obtain ⟨b, o, rfl, _, hcx⟩ := HT.out.row2 hx
      have hsx := HS.out x (List.mem_of_getElem? hx)
      unfold maxLen at hsx
      have HX := Lib.hid hx
      clear hx
      by_cases h2 : r < x.size
      · go_wp2
        go_ret
        exact ⟨-1, ⟨by omega, .inl (by omega)⟩, rfl, rfl⟩
      · have h2' : (x.size : Int) ≤ r := by omega
        go_wp2
        go_round
        case rel => exact ⟨k + 1, _, by omega, by go_num, rfl, by omega, by omega, Lib.hid (by
          have hl := (List.getElem?_eq_some_iff.1 HX.out).1
          have he : xs[k] = x := (List.getElem?_eq_some_iff.1 HX.out).2
          rw [List.take_succ_eq_append_getElem hl, he]
          intro y hy
          rw [List.mem_append, List.mem_singleton] at hy
          rcases hy with hy | rfl
          · exact HA.out y hy
          · omega)⟩
        case measure => simp [intOf]; omega
    · have hall : xs.take k = xs := List.take_of_length_le (by have := HN.out; omega)
      have hfin : SmallS n xs r := ⟨hr1, .inr ⟨by omega, by rw [← hall]; exact HA.out⟩⟩
      have HF := Lib.hid hfin
      clear hall hfin
      go_wp2
      go_ret
      exact ⟨r, HF.out, rfl, rfl⟩
theorem Sp.text {w : World} {A : Option Addr} {n : Nat} {xs : List ByteArray} (h : TextAt w w.heap.size A n xs) : Sp 0 w.heap.size (fun W => TextAt W W.heap.size A n xs) w :=
  ⟨Nat.le_refl _, fun W hW => (h.below hW.below (Nat.le_refl _)).more hW.size⟩
theorem own_text {w : World} {lo n c : Nat} {A : Option Addr} {xs : List ByteArray} (h : w.ownsRow lo 9 1 (.slice A n c) n (strV xs)) : TextAt w w.heap.size A n xs := by
  have hl : xs.length = n := by have := h.1; rw [strV_len] at this; omega
  refine ⟨hl.symm, fun hp => ?_⟩
  rcases h.2 with ⟨_, h0⟩ | ⟨g, cap, cur, hv, hg, hb, _⟩
  · omega
  · cases hv
    refine ⟨g, 0, rfl, (Array.getElem?_eq_some_iff.1 hb).1, fun j x hx => ?_⟩
    rw [Nat.zero_add]
    exact (h.cellAt j (by have := (List.getElem?_eq_some_iff.1 hx).1; omega)).trans (strV_at _ _ _ hx)
set_option maxHeartbeats 1000000 in
theorem cToS_none3 (A : Option Addr) (cap : Nat) (w : World) :
    Calls Tryd.prog 31 #[.slice A 0 cap] w fun e w' => e = .returned (.slice (some ⟨w.heap.size, 0, none⟩) 0 0) ∧ w'.ownsRow w.heap.size 9 1 (.slice (some ⟨w.heap.size, 0, none⟩) 0 0) 0 [] ∧ Below w.heap.size w w' := by
  obtain ⟨i0, hi0, hz0, hz1, hz2⟩ := info_parts info_str0
  go_enter Tryd.func31, Tryd.ntmps31
  go_wp2_with (at_make; refine wpList_make_full _ rfl _ _ 50 rfl w.heap.size 9 i0 _ 1 Tryd.underlying50 hi0 hz0 hz1 _ _ _ _ 0 rfl rfl (by simp) (by simp) ?b2 ?b3 (Nat.le_refl _) ?_)
  case b2 => rw [hz2]; omega
  case b3 => unfold maxLen; omega
  intro w0 hown0 hgrow0
  have hb0 : Below w.heap.size w w0 := (Below.refl _ _).grown hgrow0 (Nat.le_refl _) (fun k h => by cases h)
  have HO : Hid (w0.ownsRow w.heap.size 9 1 (.slice (some ⟨w.heap.size, 0, none⟩) 0 0) 0 []) := Lib.hid (by
    have h1 := hown0.1
    have h2 := List.eq_nil_of_length_eq_zero (h1.trans (Nat.zero_mul 1))
    rw [h2] at hown0; exact hown0)
  clear hown0 hgrow0
  go_wp2
  refine wp_loop_rounds 1 ?_
  rw [rounds_succ]
  go_wp2
  go_ret
  exact ⟨rfl, HO.out, hb0⟩
def CopyS (n : Nat) (xs : List ByteArray) (w : World) (e : Ending) (w' : World) : Prop := ∃ A, e = .returned (.slice A n n) ∧ w'.ownsRow w.heap.size 9 1 (.slice A n n) n (strV xs) ∧ Below w.heap.size w w'
theorem uToS (A : Option Addr) (n cap : Nat) (xs : List ByteArray) (w : World) (hbig : n ≤ 1048576) (h : TextAt w w.heap.size A n xs) :
    Calls Tryd.prog 31 #[.slice A n cap] w (CopyS n xs w) := by
  rcases Nat.eq_zero_or_pos n with rfl | hp
  · obtain rfl : xs = [] := List.eq_nil_of_length_eq_zero h.1.symm
    exact (cToS_none3 A cap w).mono fun e w' ⟨h1, h2, h3⟩ => ⟨_, h1, h2, h3⟩
  · exact (tToS A n cap xs w hbig h).mono fun e w' ⟨h1, _, h2, h3⟩ => ⟨_, h1, h2 hp, h3⟩
theorem uEqS (A A' : Option Addr) (c c' n lo lo' : Nat) (xs : List ByteArray) (w : World) (hbig : n ≤ 1048576) (h1 : w.ownsRow lo 9 1 (.slice A n c) n (strV xs)) (h2 : w.ownsRow lo' 9 1 (.slice A' n c') n (strV xs)) :
    Calls Tryd.prog 33 #[.slice A n c, .slice A' n c'] w fun e w' => e = .returned (.bool true) ∧ Below w.heap.size w w' := by
  rcases Nat.eq_zero_or_pos n with rfl | hp
  · refine (cEqS_none _ _ _ _ _).mono ?_
    rintro e w' ⟨rfl, rfl⟩
    exact ⟨rfl, Below.refl _ _⟩
  · have t1 := own_text h1
    have t2 := own_text h2
    rcases h1.2 with ⟨_, h0⟩ | ⟨g, cap, cur, hv, _⟩
    · omega
    rcases h2.2 with ⟨_, h0⟩ | ⟨g', cap', cur', hv', _⟩
    · omega
    cases hv
    cases hv'
    exact (tEqS g c g' c' n _ _ xs w hbig t1 t2).mono fun e w' ⟨he, m, hm⟩ => ⟨he, hm ▸ below_drN_r (Below.refl _ w) m⟩
def MarkedS (lo : Nat) (A : Option Addr) (n c k : Nat) (w : World) (e : Ending) (w' : World) : Prop :=
  e = .returned (.int .i64 ((k + n : Nat) : Int)) ∧ w.grownBy w' (Value.slice A n c).ownBlock
theorem uMarkS (lo : Nat) (A : Option Addr) (n c k : Nat) (xs : List ByteArray) (w : World) (hk1 : 1 ≤ k) (hk : k ≤ 1073741824) (hn : n ≤ 1048576) (h : w.ownsRow lo 9 1 (.slice A n c) n (strV xs)) :
    Calls Tryd.prog 39 #[.slice A n c, .int .i64 (k : Int)] w (MarkedS lo A n c k w) := by
  rcases Nat.eq_zero_or_pos n with rfl | hp
  · refine (cMarkS_none _ _ _ _).mono ?_
    rintro e w' ⟨rfl, rfl⟩
    exact ⟨rfl, World.grownBy.refl _ _⟩
  · rcases h.2 with ⟨_, h0⟩ | ⟨g, cap, cur, hv, hg, hb, _⟩
    · omega
    cases hv
    exact (cMarkS lo g c n k _ w hk1 (by omega) (Array.getElem?_eq_some_iff.1 hb).1 h).mono fun e w' ⟨h1, _, h3⟩ => ⟨h1, h3⟩
end Go.Proofs.YtjofndiofacjjaaDoor
