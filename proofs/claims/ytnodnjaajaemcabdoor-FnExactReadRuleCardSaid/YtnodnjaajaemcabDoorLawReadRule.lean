/-
  The law of ReadRule: its call answers true.
-/
import Derived.Test.YtnodnjaajaemcabDoorReadRule
import Derived.Test.YtnodnjaajaemcabDoorTab
namespace Go.Proofs.YtnodnjaajaemcabDoor
set_option linter.unusedVariables false
open Go.RowKit

/-- Marking a rule's numbers. -/
def MarkRule1 (A : Option Addr) (n c k : Nat) (w : World) (e : Ending) (w' : World) : Prop :=
  e = .returned (.int .i64 ((k + n : Nat) : Int)) ∧ RowI w' A n c (marksI k n) ∧ ∃ W, Below w.heap.size w W ∧ W.grownBy w' (Value.slice A n c).ownBlock
theorem cMarkRule (A : Option Addr) (n c k : Nat) (s : ByteArray) (xs : List Int) (w : World) (hkn : k + n ≤ 1099511627776) (h : RowI w A n c xs) :
    Calls Tryd.prog 18 #[.agg #[.slice A n c, .string s], .int .i64 k] w (MarkRule1 A n c k w) := by
  have B0 := alloc_below w (.cells #[.slice A n c, .string s] 34)
  have CM := Lib.hid (cMarkI A n c k xs _ hkn (h.below B0))
  have HB := Lib.hid B0
  clear h B0
  go_enter Tryd.func18, Tryd.ntmps18
  go_wp2_with fail
  refine (show Calls Tryd.prog _ _ _ (MarkIPost A n c k _) from CM.out).mono ?_
  rintro e w1 ⟨rfl, hr, hg⟩
  go_wp2_with fail
  go_ret
  exact ⟨rfl, hr, _, HB.out, hg⟩
theorem cHeldRule (A : Option Addr) (n c k : Nat) (s : ByteArray) (w : World) (hkn : k + n ≤ 1099511627776) (h : RowI w A n c (marksI k n)) :
    Calls Tryd.prog 19 #[.agg #[.slice A n c, .string s], .int .i64 k] w fun e w' => e = .returned (.int .i64 ((k + n : Nat) : Int)) ∧ Below w.heap.size w w' := by
  have B0 := alloc_below w (.cells #[.slice A n c, .string s] 34)
  have CM := Lib.hid (cHeldI A n c k _ hkn (h.below B0))
  have HB := Lib.hid B0
  have hlt : ¬ ((k + n : Nat) : Int) < 0 := by omega
  clear h B0
  go_enter Tryd.func19, Tryd.ntmps19
  go_wp2_with fail
  refine CM.out.mono ?_
  rintro e w1 ⟨rfl, rfl⟩
  go_wp2_with fail
  go_ret
  exact ⟨rfl, HB.out⟩
theorem RowI.numD {w : World} {A : Option Addr} {n c : Nat} {xs : List Int} (h : RowI w A n c xs) : NumAt w w.heap.size A n xs :=
  ⟨h.len.symm, fun hp => by
    obtain ⟨g, e1, h1, h2⟩ := h.cells hp
    exact ⟨g, 0, e1, h1, fun j x hx => by rw [Nat.zero_add]; exact h2 j x hx⟩⟩
theorem pair_grown {w w' : World} {B : Nat} {u v : Value} {r : Option Nat} (h : PairAt w B u v) (hg : w.grownBy w' r) (hne : some B ≠ r) : PairAt w' B u v := by
  obtain ⟨h1, h2, h3⟩ := h
  have hb := hg.block B h1 hne
  refine ⟨Nat.lt_of_lt_of_le h1 hg.size, ?_, ?_⟩
  · rw [World.cell?_of_block (w := w) (a := ⟨B, 0, none⟩) hb]; exact h2
  · rw [World.cell?_of_block (w := w) (a := ⟨B, 1, none⟩) hb]; exact h3

set_option maxHeartbeats 2000000 in
set_option maxRecDepth 100000 in
theorem wReadRule (s : ByteArray) (w : World) (hs0 : s.size ≤ maxLen) (hl : Laid w) (hsh : w.ShapedOpen Tryd.prog) :
    Calls Tryd.prog 5 #[.string s] w fun e w' => e = .returned (.bool true) ∧ Below w.heap.size w w' := by
  unfold maxLen at hs0
  by_cases hbig : 1048576 < s.size
  · go_enter Tryd.func5, Tryd.ntmps5
    go_wp2
    go_ret
    exact ⟨rfl, Below.refl _ _⟩
  have hs : s.size ≤ 1048576 := by omega
  obtain ⟨o, ho⟩ := RNum.have_ 43 3 (cutA s)
  have CS := Lib.hid (cRR_spec s o w hs ho)
  have CI := Lib.hid (fun (W : World) (hW : Below w.heap.size w W) => cRR_impl s o W hs (hl.below hW) (shaped_belowR hsh hW) ho)
  have hlen : (readR s o).1.length ≤ 3 := by
    unfold readR
    split
    · rename_i hg
      obtain ⟨vs, hv, _⟩ := good_facts hg ho
      rw [hv] at ho ⊢
      exact ho.2.1
    · exact Nat.zero_le _
  obtain ⟨xs, hxs⟩ : ∃ xs, xs = (readR s o).1 := ⟨_, rfl⟩
  obtain ⟨t, ht⟩ : ∃ t, t = (readR s o).2 := ⟨_, rfl⟩
  obtain ⟨code, hc⟩ : ∃ code, code = readC s o := ⟨_, rfl⟩
  unfold RRPost at CS CI
  rw [← hxs, ← ht, ← hc] at CS CI
  rw [← hxs] at hlen
  have HLX := Lib.hid hlen
  have hd : (code != code) = false := by simp
  clear hl hsh ho hxs ht hc hlen
  go_enter Tryd.func5, Tryd.ntmps5
  go_wp2_with fail
  refine CS.out.mono ?_
  rintro e w1 ⟨A1, n, c1, rfl, O1, B1⟩
  have hn := (RowI.of O1).len
  have hn3 : n ≤ 3 := by have := HLX.out; omega
  have HN := Lib.hid hn
  have R1 := Lib.hid (RowI.of O1)
  have Q1 := alloc_below w1 (.cells #[.slice A1 n c1, .string t] 34)
  have P1 := PairAt.new w1 (.slice A1 n c1) (.string t) 34
  obtain ⟨v1, hv1⟩ : ∃ v1, v1 = w1.alloc (.cells #[.slice A1 n c1, .string t] 34) := ⟨_, rfl⟩
  have HV1 := Lib.hid hv1
  rw [← hv1] at Q1 P1
  have BV1 := B1.trans (Q1.mono B1.size)
  have S1 := P1.1
  have HR10 := Lib.hid (R1.out.below Q1)
  clear hn O1 hv1 CS
  go_wp2_with fail
  rw [← HV1.out]
  refine (CI.out v1 BV1).mono ?_
  rintro e w2 ⟨A2, n2, c2, rfl, O2, B2⟩
  obtain rfl : n2 = n := (RowI.of O2).len.symm.trans HN.out
  have R2 := Lib.hid O2
  have HOB : Hid (∀ b, (Value.slice A2 n2 c2).ownBlock = some b → v1.heap.size ≤ b ∧ b < w2.heap.size) := Lib.hid (fun b hb => O2.lt b hb)
  have BV2 := BV1.trans (B2.mono BV1.size)
  have Q2 := alloc_below w2 (.cells #[.slice A2 n2 c2, .string t] 34)
  have P2 := PairAt.new w2 (.slice A2 n2 c2) (.string t) 34
  have P12 := (P1.below B2).below Q2
  have S2 := P2.1
  have S2' := Q2.size
  have S12 := B2.size
  have BV3 := BV2.trans (Q2.mono BV2.size)
  have HR1 := Lib.hid ((((R1.out.below Q1).below B2).below Q2))
  have HR2 := Lib.hid (ownsRow_keepD R2.out Q2)
  have Bv12 := B2.trans (Q2.mono B2.size)
  clear O2 P1 Q1 B1 B2 R1 R2 Q2 BV2
  obtain ⟨l1, a0, a1⟩ := id P12
  obtain ⟨l2, b0, b1⟩ := id P2
  go_wp2_with fail
  refine (cEqRule A2 A1 n2 c2 c1 _ _ (xs, t) _ (by omega) (RowI.of HR2.out).numD HR1.out.numD (Nat.le_refl _) (Nat.le_refl _)).mono ?_
  rintro e w3 ⟨rfl, B3⟩
  have P13 := P12.below B3
  have P23 := P2.below B3
  have HR13 := Lib.hid (HR1.out.below B3)
  have HR23 := Lib.hid (ownsRow_keepD HR2.out B3)
  have BW3 := BV3.trans (B3.mono BV3.size)
  have Bv13 := Bv12.trans (B3.mono Bv12.size)
  have S3 := B3.size
  clear P12 P2 B3 a0 a1 b0 b1 l1 l2 BV3 Bv12
  obtain ⟨l1, a0, a1⟩ := id P13
  obtain ⟨l2, b0, b1⟩ := id P23
  go_wp2_with fail
  refine (cMarkRule A2 n2 c2 1 t xs w3 (by omega) (RowI.of HR23.out)).mono ?_
  rintro e w4 ⟨rfl, RM, W4, BW, G4⟩
  have hob : ∀ b, (Value.slice A2 n2 c2).ownBlock = some b → v1.heap.size ≤ b ∧ b < w2.heap.size := HOB.out
  have SW := BW.size
  have P14 := pair_grown (P13.below BW) G4 (fun e => by have := hob _ e.symm; omega)
  have P24 := pair_grown (P23.below BW) G4 (fun e => by have := hob _ e.symm; omega)
  have Bw14 : Below v1.heap.size v1 w4 := (Bv13.trans (BW.mono (by omega))).grown G4 (by omega) (fun b hb => (hob b hb).1)
  have HRM := Lib.hid RM
  have S4 := G4.size
  have BW4 := BV1.trans (Bw14.mono BV1.size)
  have HR14 := Lib.hid ((HR10.out.below Bw14))
  clear P13 P23 RM BW G4 Bv13 BW3 a0 a1 b0 b1 l1 l2 hob HR13
  obtain ⟨l1, a0, a1⟩ := id P14
  obtain ⟨l2, b0, b1⟩ := id P24
  have hlt1 : ¬ ((1 + n2 : Nat) : Int) < 0 := by omega
  have hqm : (((1 + n2 : Nat) : Int) != ((1 + n2 : Nat) : Int)) = false := by simp
  go_wp2_with fail
  refine (cHeldRule A2 n2 c2 1 t w4 (by omega) HRM.out).mono ?_
  rintro e w5 ⟨rfl, B5⟩
  have P15 := P14.below B5
  have P25 := P24.below B5
  have HR15 := Lib.hid (HR14.out.below B5)
  have HM5 := Lib.hid (HRM.out.below B5)
  have BW5 := BW4.trans (B5.mono BW4.size)
  clear P14 P24 HR14 HRM B5 a0 a1 b0 b1 l1 l2 BW4 Bw14
  go_wp2_with fail
  refine (CI.out w5 BW5).mono ?_
  rintro e w6 ⟨A6, n6, c6, rfl, O6, B6⟩
  obtain rfl : n6 = n2 := (RowI.of O6).len.symm.trans HN.out
  have Q6 := alloc_below w6 (.cells #[.slice A6 n6 c6, .string t] 34)
  have P6 := PairAt.new w6 (.slice A6 n6 c6) (.string t) 34
  have P16 := (P15.below B6).below Q6
  have P26 := (P25.below B6).below Q6
  have HR16 := Lib.hid ((HR15.out.below B6).below Q6)
  have HM6 := Lib.hid ((HM5.out.below B6).below Q6)
  have HR6 := Lib.hid (ownsRow_keepD O6 Q6)
  have BW6 := (BW5.trans (B6.mono BW5.size)).trans (Q6.mono (Nat.le_trans BW5.size B6.size))
  clear O6 P15 P25 HR15 HM5 B6 Q6 BW5
  obtain ⟨l1, a0, a1⟩ := id P16
  obtain ⟨l6, d0, d1⟩ := id P6
  go_wp2_with fail
  refine (cEqRule A6 A1 n6 c6 c1 _ _ (xs, t) _ (by omega) (RowI.of HR6.out).numD HR16.out.numD (Nat.le_refl _) (Nat.le_refl _)).mono ?_
  rintro e w7 ⟨rfl, B7⟩
  obtain ⟨l2, b0, b1⟩ := P26.below B7
  have HM7 := Lib.hid (HM6.out.below B7)
  have BW7 := BW6.trans (B7.mono BW6.size)
  clear P16 P26 P6 HR16 HM6 HR6 B7 BW6 a0 a1 d0 d1 l1 l6
  go_wp2_with fail
  refine (cHeldRule A2 n6 c2 1 t w7 (by omega) HM7.out).mono ?_
  rintro e w8 ⟨rfl, B8⟩
  go_wp2_with fail
  go_ret
  exact ⟨rfl, BW7.trans (B8.mono BW7.size)⟩
end Go.Proofs.YtnodnjaajaemcabDoor
