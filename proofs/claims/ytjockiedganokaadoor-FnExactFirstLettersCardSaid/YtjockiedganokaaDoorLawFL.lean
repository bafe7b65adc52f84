/-
  The law of FirstLetters: its call answers true.
-/
import Derived.Test.YtjockiedganokaaDoorFirstS
import Derived.Test.YtjockiedganokaaDoorToS2
import Derived.Test.YtjockiedganokaaDoorEqS
import Derived.Test.YtjockiedganokaaDoorMarkS
namespace Go.Proofs.YtjockiedganokaaDoor
set_option linter.unusedVariables false
open Go.RowKit

theorem tToS3 (A : Option Addr) (n cap : Nat) (xs : List ByteArray) (w : World) (hbig : n ≤ 1048576) (h : TextAt w w.heap.size A n xs) :
    Calls Tryd.prog 23 #[.slice A n cap] w fun e w' => e = .returned (.slice (some ⟨w.heap.size, 0, none⟩) n n) ∧ SrcT w' (some ⟨w.heap.size, 0, none⟩) n n xs ∧ (0 < n → w'.ownsRow w.heap.size 9 1 (.slice (some ⟨w.heap.size, 0, none⟩) n n) n (vals xs)) ∧ w.heap.size < w'.heap.size ∧ Below w.heap.size w w' := by
  rcases Nat.eq_zero_or_pos n with rfl | hp
  · refine (cToS_none2 A cap w).mono ?_
    rintro e w' ⟨rfl, hl, hb⟩
    have hx : xs = [] := List.eq_nil_of_length_eq_zero h.1.symm
    subst hx
    exact ⟨rfl, .inr ⟨_, 0, rfl, hl, rfl, fun j x hx => by simp at hx⟩, fun hp => absurd hp (by omega), hl, hb⟩
  · refine (tToS A n cap xs w hbig h).mono ?_
    rintro e w' ⟨rfl, _, own0, hbw⟩
    have own := own0 hp
    refine ⟨rfl, .inr ⟨_, 0, rfl, (own.lt _ rfl).2, h.1, fun j x hx => ?_⟩, fun _ => own, (own.lt _ rfl).2, hbw⟩
    rw [Nat.zero_add]
    exact (own.cellAt j (by have := (List.getElem?_eq_some_iff.1 hx).1; have := h.1; omega)).trans (vals_at _ _ _ hx)
theorem tMarkS (g n : Nat) (base : Nat) (k : Nat) (hk : 1 ≤ k) (hk2 : k ≤ 4194304) (xs : List Value) (w : World) (hn : n ≤ 1048576) (hg : 0 < n → g < w.heap.size ∧ w.ownsRow base 9 1 (.slice (some ⟨g, 0, none⟩) n n) n xs) :
    Calls Tryd.prog 29 #[.slice (some ⟨g, 0, none⟩) n n, .int .i64 k] w fun e w' => e = .returned (.int .i64 ((k + n : Nat) : Int)) ∧ ∃ gg, w.grownBy w' gg ∧ ∀ k, gg = some k → 0 < n ∧ k = g := by
  rcases Nat.eq_zero_or_pos n with rfl | hp
  · refine (cMarkS_none _ _ _ _).mono ?_
    rintro e w' ⟨rfl, rfl⟩
    exact ⟨rfl, none, World.grownBy.refl _ _, fun k h => by cases h⟩
  · obtain ⟨h1, h2⟩ := hg hp
    refine (cMarkS base g n n k xs w hk (by omega) h1 h2).mono ?_
    rintro e w' ⟨rfl, _, h3⟩
    exact ⟨rfl, _, h3, fun k h => ⟨hp, by cases h; rfl⟩⟩

set_option maxHeartbeats 4000000 in
theorem wFirstL (a : Option Addr) (n cap : Nat) (zs : List ByteArray) (a1 : Option Addr) (n1 cap1 : Nat) (z1 : List ByteArray) (w : World) (h : IsStrs w a n cap zs) (h1 : IsStrs w a1 n1 cap1 z1) (hsh : w.ShapedOpen Tryd.prog) :
    Calls Tryd.prog 10 #[.slice a n cap, .slice a1 n1 cap1] w fun e w' => e = .returned (.bool true) ∧ Below w.heap.size w w' := by
  obtain ⟨hm, hs, ht⟩ := textAt_arg h
  obtain ⟨hm1, hs1, ht1⟩ := textAt_arg h1
  clear h h1
  obtain ⟨xs, hxs⟩ : ∃ xs, xs = zs.take n := ⟨_, rfl⟩
  rw [← hxs] at hs ht
  obtain ⟨ls, hls⟩ : ∃ ls, ls = z1.take n1 := ⟨_, rfl⟩
  rw [← hls] at hs1 ht1
  clear hxs hls
  have HS := Lib.hid hs
  have HT := Lib.hid ht
  have HT1 := Lib.hid ht1
  have HSH := Lib.hid hsh
  have S1 := Lib.hid (tSz a n cap _ xs w hm hs ht)
  have S2 : Hid (∀ r : Int, 0 ≤ r → r ≤ 1048576 → Calls Tryd.prog 22 #[.slice a1 n1 cap1, .int .i64 r] w (SomeR (SmallS n1 ls) w)) := Lib.hid (fun r h0 h1 => tSz2 a1 n1 cap1 _ ls r h0 h1 w hm1 hs1 ht1)
  clear hs ht hs1 ht1 hsh
  unfold maxLen at hm hm1
  obtain ⟨c, hc⟩ : ∃ c, c = codeK xs ls [] ls.length := ⟨_, rfl⟩
  obtain ⟨ys, hys⟩ : ∃ ys, ys = flZ xs ls := ⟨_, rfl⟩
  have HL : Hid (ys.length ≤ 40) := Lib.hid (by rw [hys]; exact flZ_len xs ls)
  have CS : Hid (∀ (A A1 : Option Addr) (c c1 : Nat) W, n ≤ 1048576 → n1 ≤ 1048576 → (∀ x ∈ ls, x.size ≤ 1048576) → TextAt W W.heap.size A n xs → TextAt W W.heap.size A1 n1 ls → Calls Tryd.prog 35 #[.slice A n c, .slice A1 n1 c1] W (FLOut (flZ xs ls) (codeK xs ls [] ls.length) W)) := Lib.hid (fun A A1 c c1 W h1 h2 h3 h4 h5 => tFL_spec A A1 n n1 c c1 xs ls W h1 HS.out h4 h5 h2 h3)
  have CI : Hid (∀ (A A1 : Option Addr) (c c1 : Nat) W, n ≤ 1048576 → n1 ≤ 1048576 → (∀ x ∈ ls, x.size ≤ 1048576) → TextAt W W.heap.size A n xs → SrcT W A1 n1 c1 ls → W.ShapedOpen Tryd.prog → Calls Tryd.prog 36 #[.slice A n c, .slice A1 n1 c1] W (FLOut (flZ xs ls) (codeK xs ls [] ls.length) W)) := Lib.hid (fun A A1 c c1 W h1 h2 h3 h4 h5 h6 => tFL_impl A A1 n n1 c c1 xs ls W h1 HS.out h4 h5 h2 h3 h6)
  rw [← hc, ← hys] at CS CI
  clear hc hys
  have hd2 : (c != c) = false := by simp
  go_enter Tryd.func10, Tryd.ntmps10
  go_wp2_with fail
  refine S1.out.mono ?_
  rintro e w' ⟨r, hr, rfl, rfl⟩
  by_cases hr0 : r < 0
  · have hr1 := hr.1
    clear hr
    go_wp2_with fail
    go_ret
    exact ⟨rfl, Below.refl _ _⟩
  obtain ⟨hn1, hs1⟩ : n ≤ 1048576 ∧ ∀ x ∈ xs, x.size ≤ 1048576 := by
    rcases hr.2 with h | h
    · omega
    · exact h
  have hr1 := hr.1
  have hr2 : 0 ≤ r := by omega
  clear hs1 hr
  go_wp2_with fail
  refine (S2.out r hr2 hr1).mono ?_
  rintro e w' ⟨q, hq, rfl, rfl⟩
  by_cases hq0 : q < 0
  · have hq1 := hq.1
    clear hq
    go_wp2_with fail
    go_ret
    exact ⟨rfl, Below.refl _ _⟩
  obtain ⟨hl1, hls1⟩ : n1 ≤ 1048576 ∧ ∀ x ∈ ls, x.size ≤ 1048576 := by
    rcases hq.2 with h | h
    · omega
    · exact h
  have hq1 := hq.1
  have hq2 : 0 ≤ q := by omega
  have HLS := Lib.hid hls1
  clear hls1 hq
  -- the reference
  go_wp2_with fail
  refine (tToS2 a n cap xs w hn1 HT.out).mono ?_
  rintro e w1 ⟨rfl, T1, B1⟩
  have K1 := Lib.hid T1; clear T1
  go_wp2_with fail
  refine (tToS2 a1 n1 cap1 ls w1 hl1 ((HT1.out.below B1 (Nat.le_refl _)).more B1.size)).mono ?_
  rintro e w2 ⟨rfl, T2, B2⟩
  have K2 := Lib.hid T2; clear T2
  have C2 := B1.trans (B2.mono B1.size)
  have CS2 := Lib.hid (CS.out _ _ n n1 w2 hn1 hl1 HLS.out (K1.out.below B2).at K2.out.at)
  clear CS
  go_wp2_with fail
  refine CS2.out.mono ?_
  rintro e w3 ⟨A0, n0, c0, rfl, own0, B3⟩
  have C3 := C2.trans (B3.mono C2.size)
  have R0 := Lib.hid (RowI.of own0)
  have L0 := Lib.hid (fun x (hx : (Value.slice A0 n0 c0).ownBlock = some x) => (own0.lt x hx).2)
  have N0 : Hid (n0 = ys.length) := Lib.hid (RowI.len (RowI.of own0)).symm
  clear own0 CS2
  -- the program
  go_wp2_with fail
  refine (tToS3 a n cap xs w3 hn1 ((HT.out.below C3 (Nat.le_refl _)).more C3.size)).mono ?_
  rintro e w4 ⟨rfl, T4, O4, s4, B4⟩
  have K4 := Lib.hid T4
  have OW4 := Lib.hid O4
  clear T4 O4
  have C4 := C3.trans (B4.mono C3.size)
  go_wp2_with fail
  refine (tToS3 a1 n1 cap1 ls w4 hl1 ((HT1.out.below C4 (Nat.le_refl _)).more C4.size)).mono ?_
  rintro e w5 ⟨rfl, T5, O5, s5, B5⟩
  have K5 := Lib.hid T5
  have OW5 := Lib.hid O5
  clear T5 O5
  have C5 := C4.trans (B5.mono C4.size)
  have CI2 := Lib.hid (CI.out _ _ n n1 w5 hn1 hl1 HLS.out (K4.out.below B5).at K5.out (shaped_below HSH.out C5))
  go_wp2_with fail
  refine CI2.out.mono ?_
  rintro e w6 ⟨A1, m1, c1, rfl, own1, B6⟩
  have C6 := C5.trans (B6.mono C5.size)
  have R1 := Lib.hid (RowI.of own1)
  have L1 := Lib.hid (fun x (hx : (Value.slice A1 m1 c1).ownBlock = some x) => own1.lt x hx)
  obtain rfl : m1 = n0 := by rw [N0.out]; exact (RowI.len (RowI.of own1)).symm
  have hnb : m1 ≤ 40 := by rw [N0.out]; exact HL.out
  clear own1 CI2
  have R0a := Lib.hid (((R0.out.below B4).below B5).below B6)
  have HQ := Lib.hid (cEqR A1 A0 c1 c0 m1 ys w6 (by omega) R1.out R0a.out)
  go_wp2_with fail
  refine HQ.out.mono ?_
  rintro e w7 ⟨rfl, B7⟩
  have C7 := C6.trans (B7.mono C6.size)
  -- the arguments are as they were
  go_wp2_with fail
  refine (tToS2 a n cap xs w7 hn1 ((HT.out.below C7 (Nat.le_refl _)).more C7.size)).mono ?_
  rintro e w8 ⟨rfl, T8, B8⟩
  have K8 := Lib.hid T8; clear T8
  have C8 := C7.trans (B8.mono C7.size)
  have E4 := Lib.hid ((((K4.out.below B5).below B6).below B7).below B8).at
  go_wp2_with fail
  refine (tEqS w3.heap.size n w7.heap.size n n _ _ xs w8 hn1 E4.out K8.out.at).mono ?_
  rintro e w' ⟨rfl, d1, rfl⟩
  have hD : Below w.heap.size w (w8.drewN d1) := below_drN C8 d1
  go_wp2_with fail
  refine (tToS2 a1 n1 cap1 ls (w8.drewN d1) hl1 ((HT1.out.below hD (Nat.le_refl _)).more hD.size)).mono ?_
  rintro e w9 ⟨rfl, T9, B9⟩
  have K9 := Lib.hid T9; clear T9
  have B9' : Below w8.heap.size w8 w9 := ⟨B9.os, B9.tape, B9.output, B9.size, B9.block⟩
  have C9 := hD.trans (B9.mono hD.size)
  have E5 := Lib.hid ((((K5.out.below B6).below B7).below B8).below B9').at
  go_wp2_with fail
  refine (tEqS w4.heap.size n1 w8.heap.size n1 n1 _ _ ls w9 hl1 E5.out K9.out.at).mono ?_
  rintro e w' ⟨rfl, d2, rfl⟩
  have hD2 : Below w.heap.size w (w9.drewN d2) := below_drN C9 d2
  -- marks in the arguments
  have B59 : Below w5.heap.size w5 w9 := ((B6.trans (B7.mono B6.size)).trans (B8.mono (Nat.le_trans B6.size B7.size))).trans (B9'.mono (Nat.le_trans B6.size (Nat.le_trans B7.size B8.size)))
  have B69 : Below w6.heap.size w6 w9 := (B7.trans (B8.mono B7.size)).trans (B9'.mono (Nat.le_trans B7.size B8.size))
  have O9a : 0 < n → w3.heap.size < (w9.drewN d2).heap.size ∧ (w9.drewN d2).ownsRow w3.heap.size 9 1 (.slice (some ⟨w3.heap.size, 0, none⟩) n n) n (vals xs) := fun hp => by
    have o5 := (OW4.out hp).kept (bgr B5 none) (by simp [Value.ownBlock])
    have o9 := o5.kept (bgr B59 none) (by simp [Value.ownBlock])
    exact ⟨Nat.lt_of_lt_of_le s4 (Nat.le_trans B5.size B59.size), o9⟩
  have O9b : 0 < n1 → w4.heap.size < (w9.drewN d2).heap.size ∧ (w9.drewN d2).ownsRow w4.heap.size 9 1 (.slice (some ⟨w4.heap.size, 0, none⟩) n1 n1) n1 (vals ls) := fun hp => by
    have o9 := (OW5.out hp).kept (bgr B59 none) (by simp [Value.ownBlock])
    exact ⟨Nat.lt_of_lt_of_le s5 B59.size, o9⟩
  have HO9b := Lib.hid O9b
  have R1a := Lib.hid (R1.out.below B69)
  have R0b := Lib.hid (R0a.out.below B69)
  have u1 : ((1 : Nat) : Int) = 1 := rfl
  have M1 := Lib.hid (tMarkS w3.heap.size n w3.heap.size 1 (by omega) (by omega) (vals xs) (w9.drewN d2) hn1 O9a)
  clear O9a O9b
  go_wp2_with fail
  refine (show Calls Tryd.prog 29 #[.slice (some ⟨w3.heap.size, 0, none⟩) n n, .int .i64 1] _ _ from M1.out).mono ?_
  rintro e w10 ⟨rfl, gg, G10, HGG⟩
  have C10 : Below w.heap.size w w10 := hD2.grown G10 hD2.size (fun k hk => by rw [(HGG k hk).2]; exact C3.size)
  have G10' : w9.grownBy w10 gg := ⟨G10.os, G10.tape, G10.output, G10.size, G10.block⟩
  have R1b := Lib.hid (RowI.grown R1a.out G10' (fun x hx e => by
    have h1 := (L1.out _ hx).1
    have h2 := (HGG x e).2
    have := B5.size
    omega))
  have R0c := Lib.hid (RowI.grown R0b.out G10' (fun x hx e => by
    have h1 := L0.out _ hx
    have h2 := (HGG x e).2
    omega))
  have O10b : 0 < n1 → w4.heap.size < w10.heap.size ∧ w10.ownsRow w4.heap.size 9 1 (.slice (some ⟨w4.heap.size, 0, none⟩) n1 n1) n1 (vals ls) := fun hp => by
    obtain ⟨h1, h2⟩ := HO9b.out hp
    refine ⟨Nat.lt_of_lt_of_le h1 G10.size, h2.kept G10 (.inr ?_)⟩
    intro e
    have h3 : w4.heap.size = w3.heap.size := (HGG _ e.symm).2
    omega
  have l10 : w9.heap.size ≤ w10.heap.size := G10'.size
  have M2 := Lib.hid (tMarkS w4.heap.size n1 w4.heap.size (1 + n) (by omega) (by omega) (vals ls) w10 hl1 O10b)
  clear G10 G10' HGG O10b M1
  go_wp2_with fail
  refine (show Calls Tryd.prog 29 #[.slice (some ⟨w4.heap.size, 0, none⟩) n1 n1, .int .i64 ((1 + n : Nat) : Int)] _ _ from M2.out).mono ?_
  rintro e w11 ⟨rfl, gg, G11, HGG⟩
  have C11 : Below w.heap.size w w11 := C10.grown G11 C10.size (fun k hk => by rw [(HGG k hk).2]; exact C4.size)
  have R1c := Lib.hid (RowI.grown R1b.out G11 (fun x hx e => by
    have h1 := (L1.out _ hx).1
    have h2 := (HGG x e).2
    omega))
  have R0d := Lib.hid (RowI.grown R0c.out G11 (fun x hx e => by
    have h1 := L0.out _ hx
    have h2 := (HGG x e).2
    have := B4.size
    omega))
  have l11 : w10.heap.size ≤ w11.heap.size := G11.size
  clear G11 HGG M2
  have HQ11 := Lib.hid (cEqR A1 A0 c1 c0 m1 ys w11 (by omega) R1c.out R0d.out)
  have hk1 : ¬ ((1 + n + n1 : Nat) : Int) < 0 := by omega
  go_wp2_with fail
  refine HQ11.out.mono ?_
  rintro e w12 ⟨rfl, B12⟩
  have C12 := C11.trans (B12.mono C11.size)
  have R1d := Lib.hid (R1c.out.below B12)
  have R0e := Lib.hid (R0d.out.below B12)
  have HM12 := Lib.hid (cMarkI A1 m1 c1 1 ys w12 (by omega) R1d.out)
  go_wp2_with fail
  refine HM12.out.mono ?_
  rintro e w13 ⟨rfl, M13, G13⟩
  have C13 : Below w.heap.size w w13 := C12.grown G13 C12.size (fun k hk => Nat.le_trans C5.size (L1.out k hk).1)
  have R0f := Lib.hid (R0e.out.grown G13 (fun x hx e => by
    have h1 := L0.out x hx
    have h2 := (L1.out x e).1
    have := B4.size
    have := B5.size
    omega))
  have M13h := Lib.hid M13
  clear M13 G13
  have HH13 := Lib.hid (cHeldI A1 m1 c1 1 w13 (by omega) M13h.out)
  have hm1' : (((1 + m1 : Nat) : Int) != ((1 + m1 : Nat) : Int)) = false := by simp
  go_wp2_with fail
  refine HH13.out.mono ?_
  rintro e w' ⟨rfl, rfl⟩
  go_wp2_with fail
  refine (tToS2 a n cap xs w13 hn1 ((HT.out.below C13 (Nat.le_refl _)).more C13.size)).mono ?_
  rintro e w14 ⟨rfl, T14, B14⟩
  have K14 := Lib.hid T14; clear T14
  have C14 := C13.trans (B14.mono C13.size)
  go_wp2_with fail
  refine (tToS2 a1 n1 cap1 ls w14 hl1 ((HT1.out.below C14 (Nat.le_refl _)).more C14.size)).mono ?_
  rintro e w15 ⟨rfl, T15, B15⟩
  have K15 := Lib.hid T15; clear T15
  have C15 := C14.trans (B15.mono C14.size)
  have CI3 := Lib.hid (CI.out _ _ n n1 w15 hn1 hl1 HLS.out (K14.out.below B15).at K15.out (shaped_below HSH.out C15))
  go_wp2_with fail
  refine CI3.out.mono ?_
  rintro e w16 ⟨A2, m2, c2, rfl, own2, B16⟩
  have C16 := C15.trans (B16.mono C15.size)
  have R2 := Lib.hid (RowI.of own2)
  obtain rfl : m2 = m1 := by rw [N0.out]; exact (RowI.len (RowI.of own2)).symm
  clear own2 CI3
  have R0g := Lib.hid (((R0f.out.below B14).below B15).below B16)
  have HQ16 := Lib.hid (cEqR A2 A0 c2 c0 m2 ys w16 (by omega) R2.out R0g.out)
  go_wp2_with fail
  refine HQ16.out.mono ?_
  rintro e w17 ⟨rfl, B17⟩
  have C17 := C16.trans (B17.mono C16.size)
  have HH17 := Lib.hid (cHeldI A1 m2 c1 1 w17 (by omega) ((((M13h.out.below B14).below B15).below B16).below B17))
  go_wp2_with fail
  refine HH17.out.mono ?_
  rintro e w' ⟨rfl, rfl⟩
  go_wp2_with fail
  go_ret
  exact ⟨rfl, C17⟩
end Go.Proofs.YtjockiedganokaaDoor
