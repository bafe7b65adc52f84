/-
  The law of SignsCovered: its call answers true.
-/
import Derived.Test.YtnodnjaajaemcabCovered
import Derived.Test.YtnodnjaajaemcabLawUsed
namespace Go.Proofs.Ytnodnjaajaemcab
set_option linter.unusedVariables false
open Go.RowKit

set_option maxHeartbeats 2000000 in
set_option maxRecDepth 100000 in
theorem wSignsCovered (A : Option Addr) (n cap : Nat) (rs : List Ru) (w : World) (hm : n ≤ maxLen) (h : RulesAt w w.heap.size A n rs) :
    Calls Try.prog 4 #[.slice A n cap] w fun e w' => e = .returned (.bool true) ∧ Below w.heap.size w w' := by
  have H := Lib.hid h
  have S1 := Lib.hid (cSzRs A n cap rs w hm h)
  clear h
  unfold maxLen at hm
  go_enter Try.func4, Try.ntmps4
  go_wp2_with fail
  refine S1.out.mono ?_
  rintro e w1 ⟨r, hr, rfl, B1⟩
  by_cases hr0 : r < 0
  · have hr1 := hr.1
    clear hr
    go_wp2_with fail
    go_ret
    exact ⟨rfl, B1⟩
  have hn : n + bulk rs ≤ 1048576 := by
    rcases hr.2 with h | h
    · omega
    · exact h
  have hr1 := hr.1
  have hr2 : 0 ≤ r := by omega
  have HZ := Lib.hid (bulk_sizes hn)
  have HN := Lib.hid hn
  have HNN : Hid (n ≤ 1048576) := Lib.hid (by omega)
  have HZL := Lib.hid (covZ_len rs)
  obtain ⟨us, hus⟩ : ∃ us, us = covZ rs := ⟨_, rfl⟩
  obtain ⟨code, hco⟩ : ∃ code, code = covC rs := ⟨_, rfl⟩
  have HUS := Lib.hid hus
  have HCO := Lib.hid hco
  have hd2 : (code != code) = false := by simp
  have HLX : Hid (us.length ≤ 1048576) := Lib.hid (by have := HZL.out; rw [← hus] at this; omega)
  clear hr hn hus hco HZL
  go_wp2_with fail
  refine (cToRs A n cap rs w1 HN.out ((H.out.below B1 (Nat.le_refl _)).more B1.size)).mono ?_
  rintro e w2 ⟨es2, rfl, he2, O2, B2⟩
  have K2 := Lib.hid (O2.rules (by rw [he2]; exact HZ.out))
  rw [he2] at K2
  have B12 := B1.trans (B2.mono B1.size)
  clear O2
  go_wp2_with fail
  refine (show Calls Try.prog _ _ w2 (UOut us code w2) from by have := cCov_spec (some ⟨w1.heap.size, 0, none⟩) n n rs w2 HNN.out K2.out; rw [HUS.out, HCO.out]; exact this).mono ?_
  rintro e w4 ⟨Aw, nw, cw, rfl, OW, B4⟩
  have B14 := B12.trans (B4.mono B12.size)
  have RW4 := Lib.hid (RowI.of OW)
  have hnw : nw = us.length := (RowI.of OW).len.symm
  have hnb : nw ≤ 1048576 := by have := HLX.out; omega
  have HNW := Lib.hid hnw
  clear hnw OW
  go_wp2_with fail
  refine (cToRs A n cap rs w4 HN.out ((H.out.below B14 (Nat.le_refl _)).more B14.size)).mono ?_
  rintro e w5 ⟨es5, rfl, he5, O5, B5⟩
  have HO5 := Lib.hid O5
  have HE5 := Lib.hid he5
  have K5 := Lib.hid (O5.rules (by rw [he5]; exact HZ.out))
  rw [he5] at K5
  have B15 := B14.trans (B5.mono B14.size)
  clear O5 he5
  go_wp2_with fail
  refine (show Calls Try.prog _ _ w5 (UOut us code w5) from by have := cCov_impl (some ⟨w4.heap.size, 0, none⟩) n n rs w5 HNN.out K5.out; rw [HUS.out, HCO.out]; exact this).mono ?_
  rintro e w7 ⟨Ag, ng, cg, rfl, OG, B7⟩
  have hng : ng = nw := (RowI.of OG).len.symm.trans HNW.out.symm
  subst hng
  have HG7 := Lib.hid OG
  have B17 := B15.trans (B7.mono B15.size)
  have K7 := Lib.hid ((K5.out.below B7 (Nat.le_refl _)).more B7.size)
  have B47 : Hid (Below w4.heap.size w4 w7) := Lib.hid (B5.trans (B7.mono B5.size))
  have B57 := Lib.hid B7
  have S45 := B5.size
  have S14 := B14.size
  have S57 := B7.size
  clear OG
  go_wp2_with fail
  refine (cEqR Ag Aw cg cw ng us w7 (by omega) (RowI.of HG7.out) (RW4.out.below B47.out)).mono ?_
  rintro e w8 ⟨rfl, B8⟩
  have B18 := B17.trans (B8.mono B17.size)
  have K8 := Lib.hid ((K7.out.below B8 (Nat.le_refl _)).more B8.size)
  go_wp2_with fail
  refine (cToRs A n cap rs w8 HN.out ((H.out.below B18 (Nat.le_refl _)).more B18.size)).mono ?_
  rintro e w9 ⟨es9, rfl, he9, O9, B9⟩
  have K9 := Lib.hid (O9.rules (by rw [he9]; exact HZ.out))
  rw [he9] at K9
  have B19 := B18.trans (B9.mono B18.size)
  clear O9
  go_wp2_with fail
  refine (cEqRs _ _ n n n rs w9 HN.out ((K8.out.below B9 (Nat.le_refl _)).more B9.size) K9.out).mono ?_
  rintro e w12 ⟨rfl, B10⟩
  have B112 := B19.trans (B10.mono B19.size)
  have B712 : Hid (Below w7.heap.size w7 w12) := Lib.hid (B8.trans ((B9.trans (B10.mono B9.size)).mono B8.size))
  clear K2 K5 K7 K8 K9 B1 B2 B4 B5 B7 B8 B9 B10 B12 B14 B15 B17 B18 B19
  have S712 := B712.out.size
  have hO12 : OwnR w12 w4.heap.size w4.heap.size n n es5 := (HO5.out.below B57.out).below B712.out
  have HS5 : Hid (∀ b ∈ w4.heap.size :: es5.map (·.1), w4.heap.size ≤ b ∧ b < w5.heap.size) := Lib.hid (HO5.out.2.mem_lt)
  have htot := totR_bulk HE5.out HN.out HO5.out.1
  go_wp2_with fail
  refine (show Calls Try.prog _ _ w12 (MarkRPost w4.heap.size w4.heap.size n n 1 es5 w12) from cMarkRs w4.heap.size w4.heap.size n n 1 es5 w12 (by omega) (by omega) HNN.out hO12).mono ?_
  rintro e w13 ⟨rfl, _, F13⟩
  have B114 := F13.below B112 (fun b hb => by have := HS5.out b hb; omega) (by omega)
  have B414 : Hid (Below w4.heap.size w4 w13) := Lib.hid (F13.below (B47.out.trans (B712.out.mono B47.out.size)) (fun b hb => (HS5.out b hb).1) (by omega))
  have HG14 : Hid (w13.ownsRow w5.heap.size 2 1 (.slice Ag ng cg) ng (intV us)) := Lib.hid (row_frame (ownsRow_keep HG7.out B712.out) F13 (fun b hb => by have := HS5.out b hb; omega))
  have S1213 := F13.size
  clear F13 hO12
  obtain ⟨T, hT⟩ : ∃ T, T = 1 + totR es5 := ⟨_, rfl⟩
  rw [← hT]
  have hnlt : ¬ ((T : Nat) : Int) < 0 := by omega
  clear hT
  go_wp2_with fail
  refine (cEqR Ag Aw cg cw ng us w13 (by omega) (RowI.of HG14.out) (RW4.out.below B414.out)).mono ?_
  rintro e w15 ⟨rfl, B15'⟩
  have B115 := B114.trans (B15'.mono B114.size)
  have B415 : Hid (Below w4.heap.size w4 w15) := Lib.hid (B414.out.trans (B15'.mono B414.out.size))
  have HG15 := Lib.hid (ownsRow_keep HG14.out B15')
  have S1415 := B15'.size
  clear B15'
  go_wp2_with fail
  refine (show Calls Try.prog _ _ w15 (MarkIPost Ag ng cg 1 w15) from cMarkI Ag ng cg 1 us w15 (by omega) (RowI.of HG15.out)).mono ?_
  rintro e w16 hp16
  have hb16 := markI_at HG15.out hp16
  obtain ⟨rfl, RM16, G16⟩ := hp16
  have B116 := below_grownR B115 G16 (fun b hb => by have := hb16 b hb; omega) (by omega)
  have B416 : Hid (Below w4.heap.size w4 w16) := Lib.hid (below_grownR B415.out G16 (fun b hb => by have := hb16 b hb; omega) (by omega))
  have HM16 := Lib.hid RM16
  have S1516 := G16.size
  clear RM16 G16 hb16
  go_wp2_with fail
  refine (cHeldI Ag ng cg 1 w16 (by omega) HM16.out).mono ?_
  rintro e w17 ⟨rfl, rfl⟩
  have hlt1 : ¬ ((1 + ng : Nat) : Int) < 0 := by omega
  have hqm : (((1 + ng : Nat) : Int) != ((1 + ng : Nat) : Int)) = false := by simp
  go_wp2_with fail
  refine (cToRs A n cap rs w16 HN.out ((H.out.below B116 (Nat.le_refl _)).more B116.size)).mono ?_
  rintro e w18 ⟨es18, rfl, he18, O18, B18⟩
  have K18 := Lib.hid (O18.rules (by rw [he18]; exact HZ.out))
  rw [he18] at K18
  have B118 := B116.trans (B18.mono B116.size)
  clear O18
  go_wp2_with fail
  refine (show Calls Try.prog _ _ w18 (UOut us code w18) from by have := cCov_impl (some ⟨w16.heap.size, 0, none⟩) n n rs w18 HNN.out K18.out; rw [HUS.out, HCO.out]; exact this).mono ?_
  rintro e w20 ⟨Ah, nh, ch, rfl, OH, B20⟩
  have hnh : nh = ng := (RowI.of OH).len.symm.trans HNW.out.symm
  subst hnh
  have HH20 := Lib.hid (RowI.of OH)
  have B1620 : Hid (Below w16.heap.size w16 w20) := Lib.hid (B18.trans (B20.mono B18.size))
  have B120 := B118.trans (B20.mono B118.size)
  clear OH B18 B20 B118 K18
  go_wp2_with fail
  refine (cEqR Ah Aw ch cw nh us w20 (by omega) HH20.out (RW4.out.below (B416.out.trans (B1620.out.mono B416.out.size)))).mono ?_
  rintro e w21 ⟨rfl, B21⟩
  have B121 := B120.trans (B21.mono B120.size)
  have HM21 := Lib.hid ((HM16.out.below B1620.out).below B21)
  clear B21
  go_wp2_with fail
  refine (cHeldI Ag nh cg 1 w21 (by omega) HM21.out).mono ?_
  rintro e w22 ⟨rfl, rfl⟩
  go_wp2_with fail
  go_ret
  exact ⟨rfl, B121⟩
end Go.Proofs.Ytnodnjaajaemcab
