/-
  The law of RulesUsed: its call answers true.
-/
import Derived.Test.YtbcdenbhnooebaaUsedS
import Derived.Test.YtbcdenbhnooebaaMarkR
import Derived.Test.YtbcdenbhnooebaaLawIsTable
namespace Go.Proofs.Ytbcdenbhnooebaa
set_option linter.unusedVariables false
open Go.RowKit

theorem row_frame {S : List Nat} {w w' : World} {B s n c : Nat} {T : TypeId} {A : Option Addr} {xs : List Value} (h : w.ownsRow B T s (.slice A n c) n xs) (hf : FrameR S w w') (hS : ∀ b ∈ S, b < B) : w'.ownsRow B T s (.slice A n c) n xs := by
  refine ⟨h.1, ?_⟩
  rcases h.2 with h2 | ⟨g, cap, cur, e1, e2, e3, e4⟩
  · exact .inl h2
  · exact .inr ⟨g, cap, cur, e1, e2, (hf.block g (Array.getElem?_eq_some_iff.1 e3).1 (fun hm => by have := hS g hm; omega)).trans e3, e4⟩
theorem row_grown {w w' : World} {B s n c : Nat} {T : TypeId} {A : Option Addr} {xs : List Value} {r : Option Nat} (h : w.ownsRow B T s (.slice A n c) n xs) (hf : w.grownBy w' r) (hS : ∀ b, r = some b → b < B) : w'.ownsRow B T s (.slice A n c) n xs := by
  refine ⟨h.1, ?_⟩
  rcases h.2 with h2 | ⟨g, cap, cur, e1, e2, e3, e4⟩
  · exact .inl h2
  · exact .inr ⟨g, cap, cur, e1, e2, (hf.block g (Array.getElem?_eq_some_iff.1 e3).1 (fun hm => by have := hS g hm.symm; omega)).trans e3, e4⟩
theorem below_grownR {w a w' : World} {r : Option Nat} {B : Nat} (h : Below B a w) (hf : w.grownBy w' r) (hS : ∀ b, r = some b → B ≤ b) (hB : B ≤ w.heap.size) : Below B a w' := h.grown hf hB hS
theorem RowI.num {w : World} {A : Option Addr} {n c : Nat} {xs : List Int} (h : RowI w A n c xs) : NumAt w w.heap.size A n xs :=
  ⟨h.len.symm, fun hp => by
    obtain ⟨g, e1, h1, h2⟩ := h.cells hp
    exact ⟨g, 0, e1, h1, fun j x hx => by rw [Nat.zero_add]; exact h2 j x hx⟩⟩
theorem markI_at {w w' : World} {B n c k : Nat} {A : Option Addr} {xs : List Int} {e : Ending} (h : w.ownsRow B 2 1 (.slice A n c) n (intV xs)) (hm : MarkIPost A n c k w e w') : ∀ b, (Value.slice A n c).ownBlock = some b → B ≤ b := fun b hb => (h.lt b hb).1
theorem totR_bulk {es : List El} {rs : List Ru} {n : Nat} (he : rulesOf es = rs) (hn : n + bulk rs ≤ 1048576) (hl : es.length = n) : totR es ≤ 1048576 := by
  have key : ∀ l : List El, totR l ≤ bulk (rulesOf l) + l.length := by
    intro l
    induction l with
    | nil => simp [totR, bulk, rulesOf]
    | cons e l ih =>
      have h1 : totR (e :: l) = (e.2.2.1.length + 1) + totR l := by simp [totR]
      have h2 : bulk (rulesOf (e :: l)) = (e.2.2.1.length + e.2.2.2.size) + bulk (rulesOf l) := by simp [bulk, rulesOf]
      rw [h1, h2, List.length_cons]; omega
  have := key es
  rw [he] at this
  omega

set_option maxHeartbeats 2000000 in
set_option maxRecDepth 100000 in
theorem wRulesUsed (A : Option Addr) (n cap : Nat) (rs : List Ru) (A' : Option Addr) (n' cap' : Nat) (zs : List Int) (w : World) (hm : n ≤ maxLen) (h : RulesAt w w.heap.size A n rs) (hz : IsInts .i64 w A' n' cap' zs) :
    Calls Try.prog 5 #[.slice A n cap, .slice A' n' cap'] w fun e w' => e = .returned (.bool true) ∧ Below w.heap.size w w' := by
  obtain ⟨hm', hN⟩ := numAt_arg hz
  obtain ⟨xs, hxs⟩ : ∃ xs, xs = zs.take n' := ⟨_, rfl⟩
  rw [← hxs] at hN
  clear hz hxs
  have H := Lib.hid h
  have H' := Lib.hid hN
  have S1 := Lib.hid (cSzRs A n cap rs w hm h)
  clear h hN
  unfold maxLen at hm hm'
  by_cases hbig : 1048576 < n'
  · go_enter Try.func5, Try.ntmps5
    go_wp2
    go_ret
    exact ⟨rfl, Below.refl _ _⟩
  have hn' : n' ≤ 1048576 := by omega
  have HC : Hid (n' ≤ maxLen) := Lib.hid (by unfold maxLen; omega)
  go_enter Try.func5, Try.ntmps5
  go_wp2_with fail
  refine S1.out.mono ?_
  rintro e w1 ⟨r, hr, rfl, B1⟩
  by_cases hr0 : r < 0
  · have hr1 := hr.1
    clear hr
    go_wp2_with fail
    go_ret
    exact ⟨rfl, B1⟩
  have hn : n + bulk rs ≤ 1048576 := by
    rcases hr.2 with h | h
    · omega
    · exact h
  have hr1 := hr.1
  have hr2 : 0 ≤ r := by omega
  have HZ := Lib.hid (bulk_sizes hn)
  have HN := Lib.hid hn
  have HNN : Hid (n ≤ 1048576) := Lib.hid (by omega)
  have HZL := Lib.hid (zsU_len rs xs)
  obtain ⟨us, hus⟩ : ∃ us, us = zsU rs xs := ⟨_, rfl⟩
  obtain ⟨code, hco⟩ : ∃ code, code = codeU rs xs := ⟨_, rfl⟩
  have HUS := Lib.hid hus
  have HCO := Lib.hid hco
  have hd2 : (code != code) = false := by simp
  have HLX : Hid (us.length ≤ 1048576) := Lib.hid (by have := HZL.out; rw [← hus] at this; have := H'.out.1; omega)
  clear hr hn hus hco HZL
  go_wp2_with fail
  refine (cToRs A n cap rs w1 HN.out ((H.out.below B1 (Nat.le_refl _)).more B1.size)).mono ?_
  rintro e w2 ⟨es2, rfl, he2, O2, B2⟩
  have K2 := Lib.hid (O2.rules (by rw [he2]; exact HZ.out))
  rw [he2] at K2
  have B12 := B1.trans (B2.mono B1.size)
  clear O2
  go_wp2_with fail
  refine (tToI A' n' cap' xs w2 hn' ((H'.out.below B12 (Nat.le_refl _)).more B12.size)).mono ?_
  rintro e w3 ⟨rfl, N3, B3⟩
  have K3 := Lib.hid ((K2.out.below B3 (Nat.le_refl _)).more B3.size)
  have M3 := Lib.hid N3
  have B13 := B12.trans (B3.mono B12.size)
  clear N3
  go_wp2_with fail
  refine (show Calls Try.prog _ _ w3 (UOut us code w3) from by have := cUsed_spec _ _ n n' n n' rs xs w3 HNN.out hn' (Nat.le_refl _) HC.out K3.out M3.out; rw [HUS.out, HCO.out]; exact this).mono ?_
  rintro e w4 ⟨Aw, nw, cw, rfl, OW, B4⟩
  have B14 := B13.trans (B4.mono B13.size)
  have RW4 := Lib.hid (RowI.of OW)
  have hnw : nw = us.length := (RowI.of OW).len.symm
  have hnb : nw ≤ 1048576 := by have := HLX.out; omega
  have HNW := Lib.hid hnw
  clear hnw
  clear OW
  go_wp2_with fail
  refine (cToRs A n cap rs w4 HN.out ((H.out.below B14 (Nat.le_refl _)).more B14.size)).mono ?_
  rintro e w5 ⟨es5, rfl, he5, O5, B5⟩
  have HO5 := Lib.hid O5
  have HE5 := Lib.hid he5
  have K5 := Lib.hid (O5.rules (by rw [he5]; exact HZ.out))
  rw [he5] at K5
  have B15 := B14.trans (B5.mono B14.size)
  clear O5 he5
  go_wp2_with fail
  refine (tToI2 A' n' cap' xs w5 hn' ((H'.out.below B15 (Nat.le_refl _)).more B15.size)).mono ?_
  rintro e w6 ⟨rfl, N6, X6, hlt6, B6⟩
  have K6 := Lib.hid ((K5.out.below B6 (Nat.le_refl _)).more B6.size)
  have M6 := Lib.hid N6
  have HX6 := Lib.hid X6
  have B16 := B15.trans (B6.mono B15.size)
  clear N6 X6
  go_wp2_with fail
  refine (show Calls Try.prog _ _ w6 (UOut us code w6) from by have := cUsed_impl _ _ n n' n n' rs xs w6 (by have := HNN.out; unfold maxLen; omega) hn' (Nat.le_refl _) HC.out K6.out M6.out; rw [HUS.out, HCO.out]; exact this).mono ?_
  rintro e w7 ⟨Ag, ng, cg, rfl, OG, B7⟩
  have hng : ng = nw := (RowI.of OG).len.symm.trans HNW.out.symm
  subst hng
  have HG7 := Lib.hid OG
  have B17 := B16.trans (B7.mono B16.size)
  have K7 := Lib.hid ((K6.out.below B7 (Nat.le_refl _)).more B7.size)
  have M7 := Lib.hid ((M6.out.below B7 (Nat.le_refl _)).more B7.size)
  have B47 : Hid (Below w4.heap.size w4 w7) := Lib.hid (B5.trans ((B6.trans (B7.mono B6.size)).mono B5.size))
  have B57 : Hid (Below w5.heap.size w5 w7) := Lib.hid (B6.trans (B7.mono B6.size))
  have B67 := Lib.hid B7
  have S45 := B5.size
  have S14 := B14.size
  have S56 := B6.size
  have S67 := B7.size
  clear OG
  go_wp2_with fail
  refine (cEqR Ag Aw cg cw ng us w7 (by omega) (RowI.of HG7.out) (RW4.out.below B47.out)).mono ?_
  rintro e w8 ⟨rfl, B8⟩
  have B18 := B17.trans (B8.mono B17.size)
  have K8 := Lib.hid ((K7.out.below B8 (Nat.le_refl _)).more B8.size)
  have M8 := Lib.hid ((M7.out.below B8 (Nat.le_refl _)).more B8.size)
  go_wp2_with fail
  refine (cToRs A n cap rs w8 HN.out ((H.out.below B18 (Nat.le_refl _)).more B18.size)).mono ?_
  rintro e w9 ⟨es9, rfl, he9, O9, B9⟩
  have K9 := Lib.hid (O9.rules (by rw [he9]; exact HZ.out))
  rw [he9] at K9
  have B19 := B18.trans (B9.mono B18.size)
  clear O9
  go_wp2_with fail
  refine (cEqRs _ _ n n n rs w9 HN.out ((K8.out.below B9 (Nat.le_refl _)).more B9.size) K9.out).mono ?_
  rintro e w10 ⟨rfl, B10⟩
  have B110 := B19.trans (B10.mono B19.size)
  have M10 := Lib.hid ((M8.out.below (B9.trans (B10.mono B9.size)) (Nat.le_refl _)).more (Nat.le_trans B9.size B10.size))
  go_wp2_with fail
  refine (tToI A' n' cap' xs w10 hn' ((H'.out.below B110 (Nat.le_refl _)).more B110.size)).mono ?_
  rintro e w11 ⟨rfl, N11, B11⟩
  have M11 := Lib.hid N11
  have B111 := B110.trans (B11.mono B110.size)
  clear N11
  go_wp2_with fail
  refine (tEqI _ _ n' n' n' _ _ xs w11 hn' ((M10.out.below B11 (Nat.le_refl _)).more B11.size) M11.out).mono ?_
  rintro e w12 ⟨rfl, md, rfl⟩
  have B712 : Hid (Below w7.heap.size w7 (w11.drewN md)) := Lib.hid (below_drewR (B8.trans ((B9.trans ((B10.trans (B11.mono B10.size)).mono B9.size)).mono B8.size)) md)
  have B112 := below_drewR B111 md
  obtain ⟨w12, hw12⟩ : ∃ w12, w12 = w11.drewN md := ⟨_, rfl⟩
  rw [← hw12] at B712 B112 ⊢
  clear hw12 K2 K3 M3 K5 K6 M6 K7 M7 K8 M8 K9 M10 M11 B1 B2 B3 B4 B5 B6 B7 B8 B9 B10 B11 B12 B13 B14 B15 B16 B17 B18 B19 B110 B111
  have S712 := B712.out.size
  -- the marks
  have hO12 : OwnR w12 w4.heap.size w4.heap.size n n es5 := (HO5.out.below B57.out).below B712.out
  have HS5 : Hid (∀ b ∈ w4.heap.size :: es5.map (·.1), w4.heap.size ≤ b ∧ b < w5.heap.size) := Lib.hid (HO5.out.2.mem_lt)
  have htot := totR_bulk HE5.out HN.out HO5.out.1
  go_wp2_with fail
  refine (show Calls Try.prog _ _ w12 (MarkRPost w4.heap.size w4.heap.size n n 1 es5 w12) from cMarkRs w4.heap.size w4.heap.size n n 1 es5 w12 (by omega) (by omega) HNN.out hO12).mono ?_
  rintro e w13 ⟨rfl, _, F13⟩
  have B113 := F13.below B112 (fun b hb => by have := HS5.out b hb; omega) (by omega)
  have B413 : Hid (Below w4.heap.size w4 w13) := Lib.hid (F13.below (B47.out.trans (B712.out.mono B47.out.size)) (fun b hb => (HS5.out b hb).1) (by omega))
  have HG13 : Hid (w13.ownsRow w6.heap.size 2 1 (.slice Ag ng cg) ng (intV us)) := Lib.hid (row_frame (ownsRow_keep HG7.out B712.out) F13 (fun b hb => by have := HS5.out b hb; omega))
  have HX13 : Hid (0 < n' → w13.ownsRow w5.heap.size 2 1 (.slice (some ⟨w5.heap.size, 0, none⟩) n' n') n' (intV xs)) := Lib.hid (fun hp => row_frame (ownsRow_keep (ownsRow_keep (HX6.out hp) B67.out) B712.out) F13 (fun b hb => by have := HS5.out b hb; omega))
  have S1213 := F13.size
  clear F13 hO12
  obtain ⟨T, hT⟩ : ∃ T, T = 1 + totR es5 := ⟨_, rfl⟩
  rw [← hT]
  have hTb : T ≤ 1048577 := by omega
  clear hT
  go_wp2_with fail
  refine (cMarkI1 w5.heap.size w5.heap.size n' n' T xs w13 H'.out.1 (by omega) HX13.out).mono ?_
  rintro e w14 ⟨rfl, _, G14⟩
  have hnlt : ¬ ((T + n' : Nat) : Int) < 0 := by omega
  have B114 := below_grownR B113 G14 (fun b hb => by cases hb; omega) (by omega)
  have B414 : Hid (Below w4.heap.size w4 w14) := Lib.hid (below_grownR B413.out G14 (fun b hb => by cases hb; omega) (by omega))
  have HG14 := Lib.hid (row_grown HG13.out G14 (fun b hb => by cases hb; omega))
  have S1314 := G14.size
  clear G14
  go_wp2_with fail
  refine (cEqR Ag Aw cg cw ng us w14 (by omega) (RowI.of HG14.out) (RW4.out.below B414.out)).mono ?_
  rintro e w15 ⟨rfl, B15'⟩
  have B115 := B114.trans (B15'.mono B114.size)
  have B415 : Hid (Below w4.heap.size w4 w15) := Lib.hid (B414.out.trans (B15'.mono B414.out.size))
  have HG15 := Lib.hid (ownsRow_keep HG14.out B15')
  have S1415 := B15'.size
  clear B15'
  go_wp2_with fail
  refine (show Calls Try.prog _ _ w15 (MarkIPost Ag ng cg 1 w15) from cMarkI Ag ng cg 1 us w15 (by omega) (RowI.of HG15.out)).mono ?_
  rintro e w16 hp16
  have hb16 := markI_at HG15.out hp16
  obtain ⟨rfl, RM16, G16⟩ := hp16
  have B116 := below_grownR B115 G16 (fun b hb => by have := hb16 b hb; omega) (by omega)
  have B416 : Hid (Below w4.heap.size w4 w16) := Lib.hid (below_grownR B415.out G16 (fun b hb => by have := hb16 b hb; omega) (by omega))
  have HM16 := Lib.hid RM16
  have S1516 := G16.size
  clear RM16 G16 hb16
  go_wp2_with fail
  refine (cHeldI Ag ng cg 1 w16 (by omega) HM16.out).mono ?_
  rintro e w17 ⟨rfl, rfl⟩
  have hlt1 : ¬ ((1 + ng : Nat) : Int) < 0 := by omega
  have hqm : (((1 + ng : Nat) : Int) != ((1 + ng : Nat) : Int)) = false := by simp
  go_wp2_with fail
  refine (cToRs A n cap rs w16 HN.out ((H.out.below B116 (Nat.le_refl _)).more B116.size)).mono ?_
  rintro e w18 ⟨es18, rfl, he18, O18, B18⟩
  have K18 := Lib.hid (O18.rules (by rw [he18]; exact HZ.out))
  rw [he18] at K18
  have B118 := B116.trans (B18.mono B116.size)
  clear O18
  go_wp2_with fail
  refine (tToI A' n' cap' xs w18 hn' ((H'.out.below B118 (Nat.le_refl _)).more B118.size)).mono ?_
  rintro e w19 ⟨rfl, N19, B19⟩
  have K19 := Lib.hid ((K18.out.below B19 (Nat.le_refl _)).more B19.size)
  have M19 := Lib.hid N19
  have B119 := B118.trans (B19.mono B118.size)
  clear N19
  go_wp2_with fail
  refine (show Calls Try.prog _ _ w19 (UOut us code w19) from by have := cUsed_impl _ _ n n' n n' rs xs w19 (by have := HNN.out; unfold maxLen; omega) hn' (Nat.le_refl _) HC.out K19.out M19.out; rw [HUS.out, HCO.out]; exact this).mono ?_
  rintro e w20 ⟨Ah, nh, ch, rfl, OH, B20⟩
  have hnh : nh = ng := (RowI.of OH).len.symm.trans HNW.out.symm
  subst hnh
  have HH20 := Lib.hid (RowI.of OH)
  have B1620 : Hid (Below w16.heap.size w16 w20) := Lib.hid (B18.trans ((B19.trans (B20.mono B19.size)).mono B18.size))
  have B120 := B119.trans (B20.mono B119.size)
  clear OH B18 B19 B20 B118 B119 K18 K19 M19
  go_wp2_with fail
  refine (cEqR Ah Aw ch cw nh us w20 (by omega) HH20.out (RW4.out.below (B416.out.trans (B1620.out.mono B416.out.size)))).mono ?_
  rintro e w21 ⟨rfl, B21⟩
  have B121 := B120.trans (B21.mono B120.size)
  have HM21 := Lib.hid ((HM16.out.below B1620.out).below B21)
  clear B21
  go_wp2_with fail
  refine (cHeldI Ag nh cg 1 w21 (by omega) HM21.out).mono ?_
  rintro e w22 ⟨rfl, rfl⟩
  go_wp2_with fail
  go_ret
  exact ⟨rfl, B121⟩
end Go.Proofs.Ytbcdenbhnooebaa
