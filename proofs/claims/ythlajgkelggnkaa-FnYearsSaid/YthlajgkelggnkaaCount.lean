/-
  The contracts of CountYears of both packages.
-/
import Derived.Test.YthlajgkelggnkaaAreYears
namespace Go.Proofs.Ythlajgkelggnkaa
set_option linter.unusedVariables false
open Go.RowKit

def cntS : List Sp → Int
  | [] => 0
  | p :: xs => p.2 - p.1 + 1 + cntS xs
theorem cntS_app (xs ys : List Sp) : cntS (xs ++ ys) = cntS xs + cntS ys := by
  induction xs with
  | nil => simp [cntS]
  | cons p xs ih => rw [List.cons_append, cntS, cntS, ih]; omega
theorem cntS_step {xs : List Sp} {k : Nat} {p : Sp} (h : xs[k]? = some p) : cntS (xs.take (k + 1)) = cntS (xs.take k) + (p.2 - p.1 + 1) := by
  have hl := (List.getElem?_eq_some_iff.1 h).1
  have he : xs[k] = p := (List.getElem?_eq_some_iff.1 h).2
  rw [List.take_succ_eq_append_getElem hl, he, cntS_app]; simp [cntS]
theorem cntS_bd {xs : List Sp} (h : ∀ p ∈ xs, spB p.1 p.2 = true) : 0 ≤ cntS xs ∧ cntS xs ≤ xs.length * 6001 := by
  induction xs with
  | nil => simp [cntS]
  | cons p xs ih =>
    have h1 := spB_bd (h p List.mem_cons_self)
    have h2 := ih (fun q hq => h q (List.mem_cons_of_mem _ hq))
    rw [cntS, List.length_cons]; omega
theorem years_mem {xs : List Sp} (h : yearsB xs = true) : ∀ p ∈ xs, spB p.1 p.2 = true := by
  intro p hp
  obtain ⟨k, hk, he⟩ := List.mem_iff_getElem.1 hp
  exact chainB_sp (yearsB_yes h).2 hk (by rw [← he]; exact List.getElem?_eq_getElem hk)
theorem cnt_take_bd {xs : List Sp} (h : yearsB xs = true) (k : Nat) : 0 ≤ cntS (xs.take k) ∧ cntS (xs.take k) ≤ 72012 := by
  have h1 := cntS_bd (xs := xs.take k) (fun p hp => years_mem h p (List.mem_of_mem_take hp))
  have h2 := (yearsB_yes h).1
  have h3 : (xs.take k).length ≤ 12 := by rw [List.length_take]; omega
  omega

def cntV (xs : List Sp) : Value := if yearsB xs then .tuple #[.int .i64 (cntS xs), .int .i64 0] else .tuple #[.int .i64 0, .int .i64 1]
theorem cntV_ok {xs : List Sp} (h : yearsB xs = true) : cntV xs = .tuple #[.int .i64 (cntS xs), .int .i64 0] := by unfold cntV; rw [if_pos h]
theorem cntV_bad {xs : List Sp} (h : yearsB xs = false) : cntV xs = .tuple #[.int .i64 0, .int .i64 1] := by unfold cntV; rw [if_neg (by simp [h])]

set_option maxHeartbeats 1000000 in
theorem cCount_impl (A : Option Addr) (n cap : Nat) (xs : List Sp) (w : World) (hbig : n ≤ 1048576) (h : SpanAt w w.heap.size A n xs) :
    Calls Try.prog 22 #[.slice A n cap] w fun e w' => e = .returned (cntV xs) ∧ Below w.heap.size w w' := by
  have H := Lib.hid h
  have CA := Lib.hid (cAre_impl A n cap xs w hbig h)
  clear h
  cases hy : yearsB xs
  · have HJ := Lib.hid (cntV_bad hy)
    rw [hy] at CA
    clear hy
    go_enter Try.func22, Try.ntmps22
    go_wp2_with fail
    refine CA.out.mono ?_
    rintro e w1 ⟨rfl, hb1⟩
    go_wp2_with fail
    go_ret2
    exact ⟨by rw [HJ.out]; rfl, hb1⟩
  · have HJ := Lib.hid (cntV_ok hy)
    have HY := Lib.hid hy
    rw [hy] at CA
    clear hy
    go_enter Try.func22, Try.ntmps22
    go_wp2_with fail
    refine CA.out.mono ?_
    rintro e w1 ⟨rfl, hb1⟩
    go_wp2_with fail
    go_loopw [4, 12] (fun s i wr => ∃ (k : Nat) (c : Int), k ≤ n ∧ i = .int .i64 k ∧ s = .int .i64 c ∧ Hid (c = cntS (xs.take k)) ∧ Below w.heap.size w wr) (fun _ i _ => n - (intOf i).toNat)
    case atStart => exact ⟨0, 0, Nat.zero_le _, rfl, rfl, Lib.hid rfl, hb1⟩
    case round =>
      clear hb1
      obtain ⟨k, c, hk, rfl, rfl, HC, hbw⟩ := hrel
      by_cases hlt : k < n
      · obtain ⟨p, hp⟩ : ∃ p, xs[k]? = some p := ⟨xs[k]'(by have := H.out.1; omega), List.getElem?_eq_getElem _⟩
        obtain ⟨b, o, rfl, hbl, c0, c1⟩ := (H.out.below hbw).2 k p hp
        have hsp := spB_bd (years_mem HY.out p (List.mem_of_getElem? hp))
        have hcb := cnt_take_bd HY.out k
        rw [← HC.out] at hcb
        have HS := Lib.hid (cntS_step hp)
        obtain ⟨x, y⟩ := p
        have q1 : -3000 ≤ x := hsp.1
        have q2 : x ≤ y := hsp.2.1
        have q3 : y ≤ 3000 := hsp.2.2
        have q4 := hcb.1
        have q5 := hcb.2
        have hb2 := hbw.alloc hbw.size (.cells #[.int .i64 x, .int .i64 y] 30)
        clear hp hsp hcb hbw
        go_wp2_with fail
        go_roundw
        case rel => exact ⟨k + 1, _, by omega, by go_num, rfl, Lib.hid (by rw [HS.out, HC.out]), hb2⟩
        case measure => simp [intOf]; omega
      · obtain rfl : k = n := by omega
        go_wp2_with fail
        go_ret2
        exact ⟨by rw [HJ.out, HC.out, List.take_of_length_le (by have := H.out.1; omega)]; rfl, hbw⟩

end Go.Proofs.Ythlajgkelggnkaa
