/-
  The law of UnionOf: its call answers true.
-/
import Derived.Test.YthlajgkelggnkaaMarkSp
import Derived.Test.YthlajgkelggnkaaUn
namespace Go.Proofs.Ythlajgkelggnkaa
set_option linter.unusedVariables false
open Go.RowKit

set_option maxHeartbeats 4000000 in
set_option maxRecDepth 100000 in
theorem wUnionOf (A B : Option Addr) (n n' cap cap' : Nat) (xs ys : List Sp) (w : World) (hm : n ≤ maxLen) (hm' : n' ≤ maxLen) (h : SpanAt w w.heap.size A n xs) (h' : SpanAt w w.heap.size B n' ys) :
    Calls Try.prog 4 #[.slice A n cap, .slice B n' cap'] w fun e w' => e = .returned (.bool true) ∧ Below w.heap.size w w' := by
  have H := Lib.hid h
  have H' := Lib.hid h'
  have HZ := Lib.hid (cSz A n cap 1048576 w hm (Nat.le_refl _))
  clear h h'
  by_cases hb : 1048576 < n
  · rw [if_neg (by omega)] at HZ
    go_enter Try.func4, Try.ntmps4
    go_wp2_with fail
    refine (show Calls Try.prog 23 #[.slice A n cap, .int .i64 1048576] _ _ from HZ.out).mono ?_
    rintro e w' ⟨rfl, rfl⟩
    go_wp2_with fail
    go_ret
    exact ⟨rfl, Below.refl _ _⟩
  rw [if_pos (by omega)] at HZ
  have hle : n ≤ 1048576 := by omega
  have HZ2 := Lib.hid (cSz B n' cap' (1048576 - n) w hm' (by omega))
  obtain ⟨z, hz⟩ : ∃ z : Int, z = ((1048576 - n : Nat) : Int) := ⟨_, rfl⟩
  rw [show ((1048576 : Nat) : Int) - (n : Int) = z by omega] at HZ
  rw [← hz] at HZ2
  have hz0 : 0 ≤ z := by omega
  by_cases hb' : 1048576 - n < n'
  · rw [if_neg (by omega)] at HZ2
    clear hz
    go_enter Try.func4, Try.ntmps4
    go_wp2_with fail
    refine (show Calls Try.prog 23 #[.slice A n cap, .int .i64 1048576] _ _ from HZ.out).mono ?_
    rintro e w' ⟨rfl, rfl⟩
    go_wp2_with fail
    refine HZ2.out.mono ?_
    rintro e w' ⟨rfl, rfl⟩
    go_wp2_with fail
    go_ret
    exact ⟨rfl, Below.refl _ _⟩
  rw [if_pos (by omega)] at HZ2
  have hle' : n' ≤ 1048576 := by omega
  obtain ⟨z2, hz2⟩ : ∃ z2 : Int, z2 = z - (n' : Int) := ⟨_, rfl⟩
  rw [← hz2] at HZ2
  have hz20 : 0 ≤ z2 := by omega
  clear hz hz2
  go_enter Try.func4, Try.ntmps4
  go_wp2_with fail
  refine (show Calls Try.prog 23 #[.slice A n cap, .int .i64 1048576] _ _ from HZ.out).mono ?_
  rintro e w' ⟨rfl, rfl⟩
  go_wp2_with fail
  refine HZ2.out.mono ?_
  rintro e w' ⟨rfl, rfl⟩
  go_wp2_with fail
  refine (cToS A n cap xs w hle H.out).mono ?_
  rintro e w1 ⟨rfl, own1, hc1⟩
  have R1 := Lib.hid (Row.of own1)
  have L1 : w.heap.size < w1.heap.size := (own1.lt _ rfl).2
  clear own1
  have B1 := hc1
  go_wp2_with fail
  refine (cToS B n' cap' ys w1 hle' (H'.out.mono_ B1)).mono ?_
  rintro e w2 ⟨rfl, own2, hc2⟩
  have R2 := Lib.hid (Row.of own2)
  have L2 : w1.heap.size < w2.heap.size := (own2.lt _ rfl).2
  clear own2
  have B2 := B1.trans (hc2.mono B1.size)
  have R1 := Lib.hid (R1.out.below hc2)
  go_wp2_with fail
  refine (cUnionOf_spec _ _ n n' n n' xs ys w2 hle hle' R1.out.span R2.out.span).mono ?_
  rintro e w3 ⟨C0, m0, c0, code, zs, hm0, hs0, rfl, own3, hc3⟩
  have Q0 := Lib.hid (Row.of own3)
  have D0 : Hid (∀ x, (Value.slice C0 m0 c0).ownBlock = some x → x < w3.heap.size) := Lib.hid (fun x hx => (own3.lt x hx).2)
  have HS0 := Lib.hid hs0
  have hm12 : m0 ≤ 12 := by rw [hm0]; exact hs0.short
  have HM0 := Lib.hid hm0
  clear own3 hs0 hm0 R1 R2
  have B3 := B2.trans (hc3.mono B2.size)
  go_wp2_with fail
  refine (cToS A n cap xs w3 hle (H.out.mono_ B3)).mono ?_
  rintro e w4 ⟨rfl, own4, hc4⟩
  have R4 := Lib.hid (Row.of own4)
  have L4 : w3.heap.size < w4.heap.size := (own4.lt _ rfl).2
  clear own4
  have B4 := B3.trans (hc4.mono B3.size)
  have Q0 := Lib.hid (Q0.out.below hc4)
  go_wp2_with fail
  refine (cToS B n' cap' ys w4 hle' (H'.out.mono_ B4)).mono ?_
  rintro e w5 ⟨rfl, own5, hc5⟩
  have R5 := Lib.hid (Row.of own5)
  have L5 : w4.heap.size < w5.heap.size := (own5.lt _ rfl).2
  clear own5
  have B5 := B4.trans (hc5.mono B4.size)
  have Q0 := Lib.hid (Q0.out.below hc5)
  have R4 := Lib.hid (R4.out.below hc5)
  go_wp2_with fail
  refine (cUnionOf_impl _ _ _ _ n n' n n' xs ys w5 hle hle' R4.out.span R5.out.span).mono ?_
  rintro e w6 ⟨C1, m1, c1, code1, zs1, hm1, hs1, rfl, own6, hc6⟩
  obtain ⟨rfl, rfl⟩ : code = code1 ∧ zs = zs1 := HS0.out.uniq hs1
  obtain rfl : m0 = m1 := HM0.out.trans hm1.symm
  have Q1 := Lib.hid (Row.of own6)
  have D1 : Hid (∀ x, (Value.slice C1 m0 c1).ownBlock = some x → w5.heap.size ≤ x ∧ x < w6.heap.size) := Lib.hid (fun x hx => own6.lt x hx)
  clear own6 hs1 hm1
  have B6 := B5.trans (hc6.mono B5.size)
  have Q0 := Lib.hid (Q0.out.below hc6)
  have R4 := Lib.hid (R4.out.below hc6)
  have R5 := Lib.hid (R5.out.below hc6)
  have hd : (code != code) = false := by simp
  go_wp2_with fail
  refine (cEqSp _ _ m0 c1 c0 zs w6 (by omega) Q1.out.span Q0.out.span).mono ?_
  rintro e w7 ⟨rfl, hc7⟩
  have B7 := B6.trans (hc7.mono B6.size)
  have Q0 := Lib.hid (Q0.out.below hc7)
  have Q1 := Lib.hid (Q1.out.below hc7)
  have R4 := Lib.hid (R4.out.below hc7)
  have R5 := Lib.hid (R5.out.below hc7)
  go_wp2_with fail
  refine (cToS A n cap xs w7 hle (H.out.mono_ B7)).mono ?_
  rintro e w8 ⟨rfl, own8, hc8⟩
  have R8 := Lib.hid (Row.of own8)
  have L8 : w7.heap.size < w8.heap.size := (own8.lt _ rfl).2
  clear own8
  have B8 := B7.trans (hc8.mono B7.size)
  have Q0 := Lib.hid (Q0.out.below hc8)
  have Q1 := Lib.hid (Q1.out.below hc8)
  have R4 := Lib.hid (R4.out.below hc8)
  have R5 := Lib.hid (R5.out.below hc8)
  go_wp2_with fail
  refine (cEqSp _ _ n n n xs w8 (by omega) R4.out.span R8.out.span).mono ?_
  rintro e w9 ⟨rfl, hc9⟩
  have B9 := B8.trans (hc9.mono B8.size)
  have Q0 := Lib.hid (Q0.out.below hc9)
  have Q1 := Lib.hid (Q1.out.below hc9)
  have R4 := Lib.hid (R4.out.below hc9)
  have R5 := Lib.hid (R5.out.below hc9)
  go_wp2_with fail
  refine (cToS B n' cap' ys w9 hle' (H'.out.mono_ B9)).mono ?_
  rintro e w10 ⟨rfl, own10, hc10⟩
  have R10 := Lib.hid (Row.of own10)
  have L10 : w9.heap.size < w10.heap.size := (own10.lt _ rfl).2
  clear own10
  have B10 := B9.trans (hc10.mono B9.size)
  have Q0 := Lib.hid (Q0.out.below hc10)
  have Q1 := Lib.hid (Q1.out.below hc10)
  have R4 := Lib.hid (R4.out.below hc10)
  have R5 := Lib.hid (R5.out.below hc10)
  go_wp2_with fail
  refine (cEqSp _ _ n' n' n' ys w10 (by omega) R5.out.span R10.out.span).mono ?_
  rintro e w11 ⟨rfl, hc11⟩
  have B11 := B10.trans (hc11.mono B10.size)
  have Q0 := Lib.hid (Q0.out.below hc11)
  have Q1 := Lib.hid (Q1.out.below hc11)
  have R4 := Lib.hid (R4.out.below hc11)
  have R5 := Lib.hid (R5.out.below hc11)
  clear R8 R10
  have S45 : w3.heap.size < w4.heap.size := L4
  have S56 : w4.heap.size < w5.heap.size := L5
  have S11 : w5.heap.size ≤ w11.heap.size := Nat.le_trans hc6.size (Nat.le_trans hc7.size (Nat.le_trans hc8.size (Nat.le_trans hc9.size (Nat.le_trans hc10.size hc11.size))))
  have W3 : w.heap.size ≤ w3.heap.size := B3.size
  go_wp2_with fail
  refine (show Calls Try.prog 26 #[.slice (some ⟨w3.heap.size, 0, none⟩) n n, .int .i64 ((1 : Nat) : Int)] w11 (MarkPost _ n n 1 w11) from cMarkSp _ n n 1 xs w11 (by omega) R4.out).mono ?_
  rintro e w12 ⟨rfl, _, hg12⟩
  have G12 : w11.grownBy w12 (some w3.heap.size) := hg12
  have B12 := B11.grown G12 B11.size (fun k hk => by cases hk; exact W3)
  have Q0 := Lib.hid (Q0.out.grown G12 (fun x hx e => by have := D0.out x hx; injection e; omega))
  have Q1 := Lib.hid (Q1.out.grown G12 (fun x hx e => by have := (D1.out x hx).1; injection e; omega))
  have R5 := Lib.hid (R5.out.grown G12 (fun x hx e => by have hq : w4.heap.size = x := Option.some.inj hx; injection e with e; omega))
  clear hg12 R4
  have u12 : (0 : Int) ≤ (n : Int) := Int.natCast_nonneg _
  go_wp2_with fail
  refine (show Calls Try.prog 26 #[.slice (some ⟨w4.heap.size, 0, none⟩) n' n', .int .i64 ((1 + 2 * n : Nat) : Int)] w12 (MarkPost _ n' n' (1 + 2 * n) w12) from cMarkSp _ n' n' (1 + 2 * n) ys w12 (by omega) R5.out).mono ?_
  rintro e w13 ⟨rfl, _, hg13⟩
  have G13 : w12.grownBy w13 (some w4.heap.size) := hg13
  have B13 := B12.grown G13 B12.size (fun k hk => by cases hk; omega)
  have Q0 := Lib.hid (Q0.out.grown G13 (fun x hx e => by have := D0.out x hx; injection e; omega))
  have Q1 := Lib.hid (Q1.out.grown G13 (fun x hx e => by have := (D1.out x hx).1; injection e; omega))
  clear hg13 R5
  obtain ⟨kk, hkk⟩ : ∃ kk : Int, kk = ((1 + 2 * n + 2 * n' : Nat) : Int) := ⟨_, rfl⟩
  rw [← hkk]
  have hk0 : 0 ≤ kk := by omega
  have hk1 : decide (kk < 0) = false := decide_eq_false (by omega)
  clear hkk
  go_wp2_with fail
  refine (cEqSp _ _ m0 c1 c0 zs w13 (by omega) Q1.out.span Q0.out.span).mono ?_
  rintro e w14 ⟨rfl, hc14⟩
  have B14 := B13.trans (hc14.mono B13.size)
  have Q0 := Lib.hid (Q0.out.below hc14)
  have Q1 := Lib.hid (Q1.out.below hc14)
  clear hk0 hk1
  go_wp2_with fail
  refine (show Calls Try.prog 26 #[.slice C1 m0 c1, .int .i64 ((1 : Nat) : Int)] w14 (MarkPost C1 m0 c1 1 w14) from cMarkSp C1 m0 c1 1 zs w14 (by omega) Q1.out).mono ?_
  rintro e w15 ⟨rfl, hr15, hg15⟩
  have Q1 := Lib.hid hr15
  have B15 := B14.grown hg15 B14.size (fun k hk => by have := (D1.out k hk).1; omega)
  have Q0 := Lib.hid (Q0.out.grown hg15 (fun x hx e => by have := D0.out x hx; have := (D1.out x e).1; omega))
  clear hr15
  obtain ⟨mm, hmm⟩ : ∃ mm : Int, mm = ((1 + 2 * m0 : Nat) : Int) := ⟨_, rfl⟩
  have hmm0 : 0 ≤ mm := by omega
  have hmm1 : (mm != mm) = false := by simp
  have HMM := Lib.hid hmm
  rw [← hmm]
  clear hmm
  go_wp2_with fail
  have CH := Lib.hid (cHeldSp C1 m0 c1 1 w15 (by omega) Q1.out)
  rw [← HMM.out] at CH
  refine (show Calls Try.prog 27 #[.slice C1 m0 c1, .int .i64 1] w15 _ from CH.out).mono ?_
  rintro e w16 ⟨rfl, rfl⟩
  clear CH
  have B16 := B15
  go_wp2_with fail
  refine (cToS A n cap xs w15 hle (H.out.mono_ B15)).mono ?_
  rintro e w17 ⟨rfl, own17, hc17⟩
  have R17 := Lib.hid (Row.of own17)
  clear own17
  have B17 := B15.trans (hc17.mono B15.size)
  have Q0 := Lib.hid (Q0.out.below hc17)
  have Q1 := Lib.hid (Q1.out.below hc17)
  go_wp2_with fail
  refine (cToS B n' cap' ys w17 hle' (H'.out.mono_ B17)).mono ?_
  rintro e w18 ⟨rfl, own18, hc18⟩
  have R18 := Lib.hid (Row.of own18)
  clear own18
  have B18 := B17.trans (hc18.mono B17.size)
  have Q0 := Lib.hid (Q0.out.below hc18)
  have Q1 := Lib.hid (Q1.out.below hc18)
  have R17 := Lib.hid (R17.out.below hc18)
  go_wp2_with fail
  refine (cUnionOf_impl _ _ _ _ n n' n n' xs ys w18 hle hle' R17.out.span R18.out.span).mono ?_
  rintro e w19 ⟨C2, m2, c2, code2, zs2, hm2, hs2, rfl, own19, hc19⟩
  obtain ⟨rfl, rfl⟩ : code = code2 ∧ zs = zs2 := HS0.out.uniq hs2
  obtain rfl : m0 = m2 := HM0.out.trans hm2.symm
  have Q2 := Lib.hid (Row.of own19)
  clear own19 hs2 hm2 R17 R18
  have B19 := B18.trans (hc19.mono B18.size)
  have Q0 := Lib.hid (Q0.out.below hc19)
  have Q1 := Lib.hid (Q1.out.below hc19)
  go_wp2_with fail
  refine (cEqSp _ _ m0 c2 c0 zs w19 (by omega) Q2.out.span Q0.out.span).mono ?_
  rintro e w20 ⟨rfl, hc20⟩
  have B20 := B19.trans (hc20.mono B19.size)
  have Q1 := Lib.hid (Q1.out.below hc20)
  have CH := Lib.hid (cHeldSp C1 m0 c1 1 w20 (by omega) Q1.out)
  rw [← HMM.out] at CH
  go_wp2_with fail
  refine (show Calls Try.prog 27 #[.slice C1 m0 c1, .int .i64 1] w20 _ from CH.out).mono ?_
  rintro e w21 ⟨rfl, rfl⟩
  clear CH
  go_wp2_with fail
  go_ret
  exact ⟨rfl, B20⟩
end Go.Proofs.Ythlajgkelggnkaa
