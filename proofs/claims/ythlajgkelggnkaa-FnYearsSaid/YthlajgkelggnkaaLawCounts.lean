/-
  The law of counts of years.
-/
import Derived.Test.YthlajgkelggnkaaDrawYears
import Derived.Test.YthlajgkelggnkaaNeSpP
import Derived.Test.YthlajgkelggnkaaCodeArg
import Derived.Test.YthlajgkelggnkaaCount
import Derived.Test.YthlajgkelggnkaaUn
import Derived.Test.YthlajgkelggnkaaWo
namespace Go.Proofs.Ythlajgkelggnkaa
set_option linter.unusedVariables false
open Go.RowKit

theorem CodeIn.below {w w' : World} {A : Option Addr} {len : Nat} (h : CodeIn w A len) (hb : Below w.heap.size w w') : CodeIn w' A len := fun hp => by
  obtain ⟨b, o, hA, hlt, hc⟩ := h hp
  refine ⟨b, o, hA, Nat.lt_of_lt_of_le hlt hb.size, fun j hj => ?_⟩
  obtain ⟨z, h0, h1, h2⟩ := hc j hj
  exact ⟨z, h0, h1, (hb.cell (p := ⟨b, o + j, none⟩) hlt).trans h2⟩
def YearRowPost (w : World) (e : Ending) (w' : World) : Prop := ∃ (g k c : Nat) (xs : List Sp), k ≤ 13 ∧ e = .returned (.slice (some ⟨g, 0, none⟩) k c) ∧ Row w' (some ⟨g, 0, none⟩) k c xs ∧ Below w.heap.size w w'
def YearRowPost2 (w : World) (e : Ending) (w' : World) : Prop := ∃ (g k c : Nat) (xs : List Sp) (z : Int), k ≤ 13 ∧ e = .returned (.tuple #[.slice (some ⟨g, 0, none⟩) k c, .int .i64 z]) ∧ Row w' (some ⟨g, 0, none⟩) k c xs ∧ Below w.heap.size w w'

set_option maxHeartbeats 1000000 in
theorem cLikeSp (A A' : Option Addr) (n cap cap' : Nat) (xs : List Sp) (w : World) (hbig : n ≤ 1099511627776) (h1 : SpanAt w w.heap.size A n xs) (h2 : SpanAt w w.heap.size A' n xs) :
    Calls Try.prog 16 #[.slice A n cap, .slice A' n cap'] w fun e w' => e = .returned (.bool true) ∧ Below w.heap.size w w' := by
  have H1 := Lib.hid h1
  have H2 := Lib.hid h2
  have hgd := guard_span
  clear h1 h2
  go_enter Try.func16, Try.ntmps16
  go_wp2
  go_loopw [5] (fun i wr => ∃ j m : Nat, j ≤ n ∧ i = .int .i64 j ∧ wr = w.drewN m) (fun i _ => n - (intOf i).toNat)
  case atStart => exact ⟨0, 0, Nat.zero_le _, rfl, rfl⟩
  case round =>
    obtain ⟨j, m, hj, rfl, rfl⟩ := hrel
    by_cases hlt : j < n
    · obtain ⟨p, hp⟩ : ∃ p, xs[j]? = some p := ⟨xs[j]'(by have := H1.out.1; omega), List.getElem?_eq_getElem _⟩
      obtain ⟨b, o, rfl, hbl, c0, c1⟩ := H1.out.2 j p hp
      obtain ⟨b', o', rfl, hbl', d0, d1⟩ := H2.out.2 j p hp
      clear hp
      obtain ⟨x, y⟩ := p
      have hne := run_neSame x y
      have e1 : (0 : Int) ≤ (j : Int) := Int.natCast_nonneg _
      have e2 : (j : Int) < (n : Int) := by omega
      go_wp2
      go_quiet (fail)
      go_wp2
      go_roundw
      case rel => exact ⟨j + 1, _, by omega, by go_num, rfl⟩
      case measure => simp [intOf]; omega
    · go_wp2
      go_ret
      exact ⟨rfl, ⟨rfl, rfl, rfl, Nat.le_refl _, fun _ _ => rfl⟩⟩

theorem cnt_len : ∀ {xs : List Sp}, (∀ p ∈ xs, spB p.1 p.2 = true) → (xs.length : Int) ≤ cntS xs
  | [], _ => Int.le_refl _
  | p :: xs, h => by
    have h1 := spB_bd (h p List.mem_cons_self)
    have h2 := cnt_len (xs := xs) (fun q hq => h q (List.mem_cons_of_mem _ hq))
    rw [cntS, List.length_cons]; omega
theorem set_nothing {xs : List Sp} (h : yearsB xs = true) : SetIs false xs xs 0 [] := by
  refine .inr ⟨by rw [h]; rfl, [], ⟨trivial, fun z => ⟨fun hm => absurd hm (memS_nil z), fun ⟨ha, _⟩ => ?_⟩⟩, .inr ⟨Nat.zero_le _, rfl, rfl⟩⟩
  unfold askB at ha
  rw [if_neg (by simp)] at ha
  cases hb : hasB xs z <;> rw [hb] at ha <;> simp at ha
theorem set_same {xs : List Sp} (h : yearsB xs = true) : SetIs true xs xs 0 xs := by
  have hs := years_sep h
  refine .inr ⟨by rw [h]; rfl, xs, ⟨hs, fun z => ?_⟩, .inr ⟨(yearsB_yes h).1, rfl, rfl⟩⟩
  unfold askB
  rw [if_pos rfl, Bool.or_self, inB_mem]
  refine ⟨fun hm => ⟨hm, ?_⟩, fun h => h.1⟩
  obtain ⟨p, hp, h1, h2⟩ := hm
  have h3 := ((sep_iff xs).1 hs).1 p hp
  omega

end Go.Proofs.Ythlajgkelggnkaa
