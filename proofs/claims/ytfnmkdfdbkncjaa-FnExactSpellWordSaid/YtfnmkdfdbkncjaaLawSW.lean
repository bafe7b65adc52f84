/-
  The law of SpellWord: its call answers true.
-/
import Derived.Test.YtfnmkdfdbkncjaaLawSpell
namespace Go.Proofs.Ytfnmkdfdbkncjaa
set_option linter.unusedVariables false
open Go.RowKit

theorem vals_strV (xs : List ByteArray) : vals xs = strV xs := rfl
/-- markStringS at a row of texts of one's own of any length. -/
theorem tMarkS (g n : Nat) (base : Nat) (xs : List Value) (w : World) (hn : n ≤ 1048576) (hg : 0 < n → g < w.heap.size ∧ w.ownsRow base 9 1 (.slice (some ⟨g, 0, none⟩) n n) n xs) :
    Calls Try.prog 20 #[.slice (some ⟨g, 0, none⟩) n n, .int .i64 1] w fun e w' => e = .returned (.int .i64 ((1 + n : Nat) : Int)) ∧ ∃ gg, w.grownBy w' gg ∧ ∀ k, gg = some k → 0 < n ∧ k = g := by
  rcases Nat.eq_zero_or_pos n with rfl | hp
  · refine (cMarkS_none _ _ _ _).mono ?_
    rintro e w' ⟨rfl, rfl⟩
    exact ⟨rfl, none, World.grownBy.refl _ _, fun k h => by cases h⟩
  · obtain ⟨h1, h2⟩ := hg hp
    refine (cMarkS base g n n 1 xs w (by omega) (by omega) h1 h2).mono ?_
    rintro e w' ⟨rfl, _, h3⟩
    exact ⟨rfl, _, h3, fun k h => ⟨hp, by cases h; rfl⟩⟩
set_option maxHeartbeats 2000000 in
theorem wSpellWord (a : Option Addr) (n cap : Nat) (zs : List ByteArray) (s : ByteArray) (hz : s.size ≤ maxLen) (w : World) (h : IsStrs w a n cap zs) :
    Calls Try.prog 6 #[.slice a n cap, .string s] w fun e w' => e = .returned (.bool true) ∧ Below w.heap.size w w' := by
  obtain ⟨hm, hs, ht⟩ := textAt_arg h
  clear h
  obtain ⟨xs, hxs⟩ : ∃ xs, xs = zs.take n := ⟨_, rfl⟩
  rw [← hxs] at hs ht
  clear hxs
  have HS := Lib.hid hs
  have HT := Lib.hid ht
  have S1 := Lib.hid (tSz a n cap _ xs w hm hs ht)
  clear hs ht
  unfold maxLen at hm hz
  by_cases hbig : 1048576 < s.size
  · go_enter Try.func6, Try.ntmps6
    go_wp2_with fail
    go_ret
    exact ⟨rfl, Below.refl _ _⟩
  have hz1 : s.size ≤ 1048576 := by omega
  obtain ⟨c, hc⟩ : ∃ c, c = codeW xs s := ⟨_, rfl⟩
  obtain ⟨ys, hys⟩ : ∃ ys, ys = zsW xs s := ⟨_, rfl⟩
  have HL : Hid (ys.length ≤ 1048576) := Lib.hid (by rw [hys]; have := zsW_len xs s; omega)
  have CS := Lib.hid (fun A' cap' W h1 h2 => tSW_spec A' n cap' xs s W h1 HS.out h2 hz1)
  have CI := Lib.hid (fun A' cap' W h1 h2 => tSW_impl A' n cap' xs s W h1 HS.out h2 hz1)
  rw [← hc, ← hys] at CS CI
  clear hc hys
  have hd2 : (c != c) = false := by simp
  go_enter Try.func6, Try.ntmps6
  go_wp2_with fail
  refine S1.out.mono ?_
  rintro e w' ⟨r, hr, rfl, rfl⟩
  by_cases hr0 : r < 0
  · have hr1 := hr.1
    clear hr
    go_wp2_with fail
    go_ret
    exact ⟨rfl, Below.refl _ _⟩
  · obtain ⟨hn1, hs1⟩ : n ≤ 1048576 ∧ ∀ x ∈ xs, x.size ≤ 1048576 := by
      rcases hr.2 with h | h
      · omega
      · exact h
    have hr1 := hr.1
    have hr2 : 0 ≤ r := by omega
    clear hs1 hr
    go_wp2_with fail
    refine (tToS a n cap xs w hn1 HT.out).mono ?_
    rintro e w1 ⟨rfl, T1, _, B1⟩
    have K1 := Lib.hid T1; clear T1
    go_wp2_with fail
    refine (CS.out _ n w1 hn1 K1.out).mono ?_
    rintro e w2 ⟨A0, n0, c0, rfl, own0, B2⟩
    have B12 := B1.trans (B2.mono B1.size)
    have R0 := Lib.hid (RowI.of own0)
    have L0 := Lib.hid (fun x (hx : (Value.slice A0 n0 c0).ownBlock = some x) => (own0.lt x hx).2)
    have N0 : Hid (n0 = ys.length) := Lib.hid (RowI.len (RowI.of own0)).symm
    clear own0
    go_wp2_with fail
    refine (tToS a n cap xs w2 hn1 ((HT.out.below B12 (Nat.le_refl _)).more B12.size)).mono ?_
    rintro e w3 ⟨rfl, T3, O3, B3⟩
    have K3 := Lib.hid T3
    have OW3 := Lib.hid O3; clear T3 O3
    have B13 := B12.trans (B3.mono B12.size)
    go_wp2_with fail
    refine (CI.out _ n w3 hn1 K3.out).mono ?_
    rintro e w4 ⟨A1, n1, c1, rfl, own1, B4⟩
    have B14 := B13.trans (B4.mono B13.size)
    have R1 := Lib.hid (RowI.of own1)
    have L1 := Lib.hid (fun x (hx : (Value.slice A1 n1 c1).ownBlock = some x) => own1.lt x hx)
    obtain rfl : n1 = n0 := by rw [N0.out]; exact (RowI.len (RowI.of own1)).symm
    clear own1
    have hnb : n1 ≤ 1048576 := by rw [N0.out]; exact HL.out
    have R0a := Lib.hid ((R0.out.below B3).below B4)
    have HQ := Lib.hid (cEqR A1 A0 c1 c0 n1 ys w4 (by omega) R1.out R0a.out)
    go_wp2_with fail
    refine HQ.out.mono ?_
    rintro e w5 ⟨rfl, B5⟩
    have B15 := B14.trans (B5.mono B14.size)
    go_wp2_with fail
    refine (tToS a n cap xs w5 hn1 ((HT.out.below B15 (Nat.le_refl _)).more B15.size)).mono ?_
    rintro e w6 ⟨rfl, T6, _, B6⟩
    have K6 := Lib.hid T6; clear T6
    have B16 := B15.trans (B6.mono B15.size)
    go_wp2_with fail
    refine (tEqS w2.heap.size n w5.heap.size n n _ _ xs w6 hn1 (((K3.out.below B4 (Nat.le_refl _)).below B5 B4.size).below B6 (Nat.le_trans B4.size B5.size)) K6.out).mono ?_
    rintro e w' ⟨rfl, m1, rfl⟩
    have B17 := below_drN B16 m1
    have O6 : 0 < n → w2.heap.size < (w6.drewN m1).heap.size ∧ (w6.drewN m1).ownsRow w2.heap.size 9 1 (.slice (some ⟨w2.heap.size, 0, none⟩) n n) n (vals xs) := fun hp => by
      have o3 := OW3.out hp
      have l3 := (o3.lt _ rfl).2
      have o4 := o3.kept (bgr B4 none) (by simp [Value.ownBlock])
      have o5 := o4.kept (bgr B5 none) (by simp [Value.ownBlock])
      have o6 := o5.kept (bgr B6 none) (by simp [Value.ownBlock])
      exact ⟨Nat.lt_of_lt_of_le l3 (Nat.le_trans B4.size (Nat.le_trans B5.size B6.size)), o6⟩
    go_wp2_with fail
    refine (tMarkS w2.heap.size n w2.heap.size (vals xs) _ hn1 O6).mono ?_
    rintro e w7 ⟨rfl, gg, G7, HGG⟩
    have B7 : Below w.heap.size w w7 := B17.grown G7 B17.size (fun k hk => by rw [(HGG k hk).2]; exact B12.size)
    have R1a := Lib.hid ((R1.out.below B5).below B6)
    have R0b := Lib.hid ((R0a.out.below B5).below B6)
    have R1b := Lib.hid (RowI.grown (w := w6.drewN m1) R1a.out G7 (fun x hx e => by
      obtain ⟨h0, rfl⟩ := HGG x e
      have h1 := (L1.out _ hx).1
      have h2 : w2.heap.size < w3.heap.size := ((OW3.out h0).lt _ rfl).2
      omega))
    have R0c := Lib.hid (RowI.grown (w := w6.drewN m1) R0b.out G7 (fun x hx e => by
      obtain ⟨h0, rfl⟩ := HGG x e
      have h1 := L0.out _ hx
      omega))
    have l67 : w6.heap.size ≤ w7.heap.size := G7.size
    clear G7 HGG O6 OW3
    have HQ7 := Lib.hid (cEqR A1 A0 c1 c0 n1 ys w7 (by omega) R1b.out R0c.out)
    have hk1 : ¬ ((1 + n : Nat) : Int) < 0 := by omega
    go_wp2_with fail
    refine HQ7.out.mono ?_
    rintro e w8 ⟨rfl, B8⟩
    have B18 := B7.trans (B8.mono B7.size)
    have R1c := Lib.hid (R1b.out.below B8)
    have R0d := Lib.hid (R0c.out.below B8)
    have HM8 := Lib.hid (cMarkI A1 n1 c1 1 ys w8 (by omega) R1c.out)
    go_wp2_with fail
    refine HM8.out.mono ?_
    rintro e w9 ⟨rfl, M9, G9⟩
    have l18 : w.heap.size ≤ w3.heap.size := B13.size
    have B19 : Below w.heap.size w w9 := B18.grown G9 B18.size (fun k hk => Nat.le_trans l18 (L1.out k hk).1)
    have R0e := Lib.hid (R0d.out.grown G9 (fun x hx e => by
      have h1 := L0.out x hx
      have h2 := (L1.out x e).1
      have := B3.size
      omega))
    have M9h := Lib.hid M9
    clear M9 G9
    have HH9 := Lib.hid (cHeldI A1 n1 c1 1 w9 (by omega) M9h.out)
    have hm1 : (((1 + n1 : Nat) : Int) != ((1 + n1 : Nat) : Int)) = false := by simp
    go_wp2_with fail
    refine HH9.out.mono ?_
    rintro e w' ⟨rfl, rfl⟩
    go_wp2_with fail
    refine (tToS a n cap xs w9 hn1 ((HT.out.below B19 (Nat.le_refl _)).more B19.size)).mono ?_
    rintro e w10 ⟨rfl, T10, _, B10⟩
    have K10 := Lib.hid T10; clear T10
    have B20 := B19.trans (B10.mono B19.size)
    go_wp2_with fail
    refine (CI.out _ n w10 hn1 K10.out).mono ?_
    rintro e w11 ⟨A2, n2, c2, rfl, own2, B11⟩
    have B21 := B20.trans (B11.mono B20.size)
    have R2 := Lib.hid (RowI.of own2)
    obtain rfl : n2 = n1 := by rw [N0.out]; exact (RowI.len (RowI.of own2)).symm
    clear own2
    have R0f := Lib.hid ((R0e.out.below B10).below B11)
    have HQ11 := Lib.hid (cEqR A2 A0 c2 c0 n2 ys w11 (by omega) R2.out R0f.out)
    go_wp2_with fail
    refine HQ11.out.mono ?_
    rintro e w12 ⟨rfl, B12'⟩
    have B22 := B21.trans (B12'.mono B21.size)
    have HH12 := Lib.hid (cHeldI A1 n2 c1 1 w12 (by omega) (((M9h.out.below B10).below B11).below B12'))
    go_wp2_with fail
    refine HH12.out.mono ?_
    rintro e w' ⟨rfl, rfl⟩
    go_wp2_with fail
    go_ret
    exact ⟨rfl, B22⟩
end Go.Proofs.Ytfnmkdfdbkncjaa
