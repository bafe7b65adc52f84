/-
  The law of RuleText: its call answers true, and nothing that was there changes.
-/
import Derived.Test.YtnodnjaajaemcabDoorRuleText
import Derived.Test.YtnodnjaajaemcabDoorTab
namespace Go.Proofs.YtnodnjaajaemcabDoor
set_option linter.unusedVariables false
open Go.RowKit

theorem rtV_form (r : Ru) : ∃ t code, rtV r = .tuple #[.string t, .int .i64 code] := by
  unfold rtV; split
  · exact ⟨_, _, rfl⟩
  · exact ⟨_, _, rfl⟩

set_option maxHeartbeats 1000000 in
set_option maxRecDepth 100000 in
theorem wRuleText (A : Option Addr) (n c : Nat) (xs : List Int) (s : ByteArray) (w : World) (hn : n ≤ maxLen) (hs : s.size ≤ maxLen) (h : NumAt w w.heap.size A n xs) (htab : Lib.TabIs Tryd.prog w "internal/strconv.uint64pow10" .u64 Lib.pow10Tab) :
    Calls Tryd.prog 4 #[.agg #[.slice A n c, .string s]] w fun e w' => e = .returned (.bool true) ∧ Below w.heap.size w w' := by
  have H := Lib.hid h
  have HTB := Lib.hid htab
  have HGL : Hid (1 < w.heap.size) := Lib.hid (World.block_lt_of_cell? w _ (htab.cell pow_named 0 (by rw [Lib.pow10Tab_length]; omega)))
  have B0 := alloc_below w (.cells #[.slice A n c, .string s] 30)
  have K0 := PairAt.new w (.slice A n c) (.string s) 30
  have S1 := Lib.hid (fun W => cSzR A n c s 1048576 W hn hs (by omega) (Int.le_refl _))
  obtain ⟨t, code, hV⟩ := rtV_form (xs, s)
  have HV := Lib.hid hV
  have hd1 : (t.toList == t.toList) = true := by simp
  have hd2 : (code != code) = false := by simp
  clear h htab hV
  go_enter Tryd.func4, Tryd.ntmps4
  go_wp2_with fail
  refine (S1.out _).mono ?_
  rintro e w1 ⟨rfl, hb1⟩
  have B1 := B0.trans (hb1.mono B0.size)
  have K1 := K0.below hb1
  clear B0 hb1 K0
  by_cases hr : szR 1048576 n s.size < 0
  · go_wp2_with fail
    go_ret
    exact ⟨rfl, B1⟩
  have hh := (szR_ok hr).1
  have hn1 : n ≤ 1048576 := by omega
  have hs1 : s.size ≤ 1048576 := by omega
  clear hh
  have H1 := Lib.hid ((H.out.below B1 (Nat.le_refl _)).more B1.size)
  obtain ⟨l1, a0, a1⟩ := id K1
  go_wp2_with fail
  refine (cToRule A n c (xs, s) w1 hn1 H1.out).mono ?_
  rintro e w2 ⟨g, rfl, hg, _, T2, _, hb2⟩
  have B2 := B1.trans (hb2.mono B1.size)
  have K2 := K1.below hb2
  have CS := Lib.hid (cRT_spec g n n (xs, s) w2 hn hs T2)
  rw [HV.out] at CS
  clear B1 hb2 K1 a0 a1 l1 T2
  go_wp2_with fail
  refine CS.out.mono ?_
  rintro e w3 ⟨rfl, hb3⟩
  have B3 := B2.trans (hb3.mono B2.size)
  have K3 := K2.below hb3
  have H3 := Lib.hid ((H.out.below B3 (Nat.le_refl _)).more B3.size)
  clear B2 hb3 K2 hg
  obtain ⟨l3, a0, a1⟩ := id K3
  go_wp2_with fail
  refine (cToRule A n c (xs, s) w3 hn1 H3.out).mono ?_
  rintro e w4 ⟨g4, rfl, hg4, _, T4, _, hb4⟩
  have B4 := B3.trans (hb4.mono B3.size)
  have K4 := K3.below hb4
  have N4 := PairAt.new w4 (.slice (some ⟨g4, 0, none⟩) n n) (.string s) 34
  have A4 := alloc_below w4 (.cells #[.slice (some ⟨g4, 0, none⟩) n n, .string s] 34)
  have H4 := Lib.hid T4
  have B4A := B4.trans (A4.mono B4.size)
  have CI := Lib.hid (cRT_impl g4 n n (xs, s) _ hn hs ((H4.out.below A4 (Nat.le_refl _)).more A4.size) (Nat.lt_of_lt_of_le HGL.out B4A.size) (tab_below B4A pow_named HGL.out HTB.out))
  rw [HV.out] at CI
  clear B3 hb4 K3 a0 a1 l3 hg4 T4 B4A
  go_wp2_with fail
  refine CI.out.mono ?_
  rintro e w5 ⟨rfl, hb5⟩
  have B5 := B4.trans ((A4.trans (hb5.mono A4.size)).mono B4.size)
  have KA := (K4.below A4).below hb5
  have KX := N4.below hb5
  have HX := Lib.hid ((((H4.out.below A4 (Nat.le_refl _)).more A4.size).below hb5 (Nat.le_refl _)).more hb5.size)
  have HA := Lib.hid ((H.out.below B5 (Nat.le_refl _)).more B5.size)
  clear B4 K4 N4 A4 hb5 H4
  have HT := Lib.hid (fun (W : World) (hW : Below w5.heap.size w5 W) => cToRule A n c (xs, s) W hn1 ((HA.out.below hW (Nat.le_refl _)).more hW.size))
  have HE := Lib.hid (fun (W : World) (g : Nat) (hW : Below w5.heap.size w5 W) (hg : NumAt W W.heap.size (some ⟨g, 0, none⟩) n xs) => cEqRule (some ⟨g4, 0, none⟩) (some ⟨g, 0, none⟩) n n n _ _ (xs, s) W hn1 ((HX.out.below hW (Nat.le_refl _)).more hW.size) hg (Nat.le_refl _) (Nat.le_refl _))
  have KT := TwoR.start KX KA
  have HB := Lib.hid B5
  clear KX KA B5
  go_wp2_with fail
  go_region_held3 (fun W => W.cell? ⟨w4.heap.size, 0, none⟩ = some (.slice (some ⟨g4, 0, none⟩) n n) ∧ W.cell? ⟨w4.heap.size, 1, none⟩ = some (.string s) ∧ W.cell? ⟨w.heap.size, 0, none⟩ = some (.slice A n c) ∧ W.cell? ⟨w.heap.size, 1, none⟩ = some (.string s) ∧ w4.heap.size < W.heap.size ∧ w.heap.size < W.heap.size ∧ Below w5.heap.size w5 W)
    (first | (exact KT) | (exact TwoR.keep (A0 := w5) (by assumption) hb) | assumption)
    (first
      | (go_at_call 13; refine (HT.out _ (show Below _ _ _ from (show TwoR w5 w4.heap.size (.slice (some ⟨g4, 0, none⟩) n n) (.string s) w.heap.size (.slice A n c) (.string s) _ by assumption).2.2.2.2.2.2)).mono ?_; rintro e w6 ⟨g6, rfl, hg6, _, T6, _, hb⟩)
      | (go_at_call 15; refine (HE.out _ _ (show Below _ _ _ from (show TwoR w5 w4.heap.size (.slice (some ⟨g4, 0, none⟩) n n) (.string s) w.heap.size (.slice A n c) (.string s) _ by assumption).2.2.2.2.2.2) (by assumption)).mono ?_; rintro e w7 ⟨rfl, hb⟩))
  all_goals
    have hq : Below w5.heap.size w5 w7 := (show TwoR w5 w4.heap.size (.slice (some ⟨g4, 0, none⟩) n n) (.string s) w.heap.size (.slice A n c) (.string s) w7 by assumption).2.2.2.2.2.2
    have B9 := HB.out.trans (hq.mono HB.out.size)
    clear HB HT HE HX HA KT
    go_wp2_with fail
    go_ret
    exact ⟨rfl, B9⟩
end Go.Proofs.YtnodnjaajaemcabDoor
