/-
  The law of AddRule: its call answers true.
-/
import Derived.Test.YtmelbfpdahaahaaAddOut
import Derived.Deep.DeepCutAuto
namespace Go.Proofs.Ytmelbfpdahaahaa
set_option linter.unusedVariables false
open Go.RowKit

theorem ROut.base {w : World} {B B' U : Nat} {v : Value} {zs : List Ru} (h : ROut w B U v zs) (hB : B' ≤ B) : ROut w B' U v zs := by
  rcases h with h | ⟨g, c, es, rfl, he, ho, hu⟩
  · exact .inl h
  · exact .inr ⟨g, c, es, rfl, he, ho.base hB, hu⟩
/-- A box, through a drawn region. -/
def BoxQ (A0 : World) (b : Nat) (u v : Value) (W : World) : Prop := W.cell? ⟨b, 0, none⟩ = some u ∧ W.cell? ⟨b, 1, none⟩ = some v ∧ b < W.heap.size ∧ Below A0.heap.size A0 W
theorem BoxQ.keep {A0 W W' : World} {b : Nat} {u v : Value} (h : BoxQ A0 b u v W) (hb : Below W.heap.size W W') : BoxQ A0 b u v W' :=
  ⟨(hb.cell (p := ⟨b, 0, none⟩) h.2.2.1).trans h.1, (hb.cell (p := ⟨b, 1, none⟩) h.2.2.1).trans h.2.1, Nat.lt_of_lt_of_le h.2.2.1 hb.size, h.2.2.2.trans (hb.mono h.2.2.2.size)⟩
theorem BoxQ.get {A0 W : World} {b : Nat} {u v : Value} (h : BoxQ A0 b u v W) : Below A0.heap.size A0 W := h.2.2.2
def AddPost (zs : List Ru) (code : Int) (w : World) (e : Ending) (w' : World) : Prop := ∃ v, e = .returned (.tuple #[v, .int .i64 code]) ∧ ROut w' w.heap.size w'.heap.size v zs ∧ Below w.heap.size w w'

set_option maxHeartbeats 8000000 in
set_option maxRecDepth 100000 in
theorem wAddRule (A : Option Addr) (n cap : Nat) (rs : List Ru) (A1 : Option Addr) (n1 c1 : Nat) (xs : List Int) (s : ByteArray) (w : World) (hm : n ≤ maxLen) (h : RulesAt w w.heap.size A n rs) (hn1 : n1 ≤ maxLen) (hs : s.size ≤ maxLen) (h1 : NumAt w w.heap.size A1 n1 xs) :
    Calls Try.prog 5 #[.slice A n cap, .agg #[.slice A1 n1 c1, .string s]] w fun e w' => e = .returned (.bool true) ∧ Below w.heap.size w w' := by
  obtain ⟨W0, hW0⟩ : ∃ W0, W0 = w.alloc (.cells #[.slice A1 n1 c1, .string s] 35) := ⟨_, rfl⟩
  have BA : Below w.heap.size w W0 := by rw [hW0]; exact alloc_below _ _
  have K0 : PairAt W0 w.heap.size (.slice A1 n1 c1) (.string s) := by rw [hW0]; exact PairAt.new w _ _ _
  have H := Lib.hid ((h.below BA (Nat.le_refl _)).more BA.size)
  have N := Lib.hid ((h1.below BA (Nat.le_refl _)).more BA.size)
  have HBA := Lib.hid BA
  have HK0 := Lib.hid K0
  have HHS := Lib.hid hs
  have S1 := Lib.hid (cSzRs A n cap rs W0 hm H.out)
  clear h h1 BA K0
  unfold maxLen at hm
  go_enter Try.func5, Try.ntmps5
  go_wp2_with fail
  rw [← hW0]
  clear hW0
  refine S1.out.mono ?_
  rintro e w1 ⟨left, hr, rfl, B1⟩
  by_cases hr0 : left < 0
  · have hr1 := hr.1
    clear hr
    go_wp2_with fail
    go_ret
    exact ⟨rfl, HBA.out.trans (B1.mono HBA.out.size)⟩
  have hn : n + bulk rs ≤ 1048576 := by
    rcases hr.2 with h | h
    · omega
    · exact h
  have hr1 := hr.1
  have hr2 : 0 ≤ left := by omega
  have HZ := Lib.hid (bulk_sizes hn)
  have HN := Lib.hid hn
  have HNN : Hid (n ≤ 1048576) := Lib.hid (by omega)
  clear hr hn S1
  obtain ⟨l1, a0, a1⟩ := HK0.out.below B1
  have C2 := Lib.hid (cSzR A1 n1 c1 s left w1 hn1 HHS.out hr2 hr1)
  by_cases hq0 : szR left n1 s.size < 0
  · clear hs hn1
    go_wp2_with fail
    refine C2.out.mono ?_
    rintro e w2 ⟨rfl, B2⟩
    go_wp2_with fail
    go_ret
    exact ⟨rfl, HBA.out.trans ((B1.trans (B2.mono B1.size)).mono HBA.out.size)⟩
  have hq1 := (szR_ok hq0).1
  have HN1 : Hid (n1 ≤ 1048576) := Lib.hid (by omega)
  have HBO := Lib.hid (szR_le (n := n1) (m := s.size) hr1)
  have hq2 := HBO.out
  clear hs hn1 hq1
  go_wp2_with fail
  refine C2.out.mono ?_
  rintro e w2 ⟨rfl, B2⟩
  have B12 := B1.trans (B2.mono B1.size)
  have Q2 := HK0.out.below B12
  have HB2 := Lib.hid B12
  clear B1 B2 C2 a0 a1 l1 hr0 hr1 hr2
  have hzz := addZ_small rs (xs, s)
  obtain ⟨zs, hzs⟩ : ∃ zs, zs = addZ rs (xs, s) := ⟨_, rfl⟩
  obtain ⟨code, hco⟩ : ∃ code, code = addC rs (xs, s) := ⟨_, rfl⟩
  rw [← hzs] at hzz
  have HZS := Lib.hid hzz
  have HZE := Lib.hid hzs
  have HCE := Lib.hid hco
  clear hzz hzs hco
  have TRS := Lib.hid (fun (W : World) (hW : Below W0.heap.size W0 W) => cToRs A n cap rs W HN.out ((H.out.below hW (Nat.le_refl _)).more hW.size))
  have TR := Lib.hid (fun (W : World) (hW : Below W0.heap.size W0 W) => cToRule A1 n1 c1 (xs, s) W HN1.out ((N.out.below hW (Nat.le_refl _)).more hW.size))
  have ADS : Hid (∀ (W : World) (ga gb : Nat), RulesAt W W.heap.size (some ⟨ga, 0, none⟩) n rs → NumAt W W.heap.size (some ⟨gb, 0, none⟩) n1 xs → Calls Try.prog 18 #[.slice (some ⟨ga, 0, none⟩) n n, .agg #[.slice (some ⟨gb, 0, none⟩) n1 n1, .string s]] W (AddPost zs code W)) := Lib.hid (fun W ga gb q1 q2 => by
    rw [HZE.out, HCE.out]
    exact (cAddS ga 0 (some ⟨gb, 0, none⟩) n n n1 n1 rs (xs, s) W HNN.out HN1.out HHS.out q1 q2).mono fun e w' h => h.out)
  have ADI : Hid (∀ (W : World) (ga gb : Nat), RulesAt W W.heap.size (some ⟨ga, 0, none⟩) n rs → NumAt W W.heap.size (some ⟨gb, 0, none⟩) n1 xs → Calls Try.prog 20 #[.slice (some ⟨ga, 0, none⟩) n n, .agg #[.slice (some ⟨gb, 0, none⟩) n1 n1, .string s]] W (AddPost zs code W)) := Lib.hid (fun W ga gb q1 q2 => by
    rw [HZE.out, HCE.out]
    exact (cAddI (some ⟨ga, 0, none⟩) (some ⟨gb, 0, none⟩) n n n1 n1 rs (xs, s) W HNN.out HN1.out HHS.out q1 q2).mono fun e w' h => h.out)
  have TOR : Hid (∀ (W : World) (B g c : Nat) (es : List El), OwnR W B g n c es → rulesOf es = rs → RulesAt W W.heap.size (some ⟨g, 0, none⟩) n rs) := Lib.hid (fun W B g c es ho he => by
    have h9 := ho.rules (by rw [he]; exact HZ.out)
    rwa [he] at h9)
  obtain ⟨l2, a0, a1⟩ := Q2
  go_wp2_with fail
  go_cut [6, 7] (fun p q wx => q = .int .i64 code ∧ ROut wx w2.heap.size wx.heap.size p zs ∧ Below w2.heap.size w2 wx)
  case first =>
    go_region_held3 (fun W => W.cell? ⟨w.heap.size, 0, none⟩ = some (.slice A1 n1 c1) ∧ W.cell? ⟨w.heap.size, 1, none⟩ = some (.string s) ∧ w.heap.size < W.heap.size ∧ Below w2.heap.size w2 W)
      (first | (exact ⟨a0, a1, l2, (Below.refl _ _).drew⟩) | (exact BoxQ.keep (A0 := w2) (by assumption) hb) | assumption)
      (first
        | (go_at_call 8; refine (TRS.out _ (HB2.out.trans ((BoxQ.get (A0 := w2) (show BoxQ w2 w.heap.size (.slice A1 n1 c1) (.string s) _ by assumption)).mono HB2.out.size))).mono ?_; rintro e wa ⟨esa, rfl, hea, oa, hb⟩; have QA := TOR.out _ _ _ _ _ oa hea; (try have QB := (QB.below hb (Nat.le_refl _)).more hb.size))
        | (go_at_call 19; refine (TR.out _ (HB2.out.trans ((BoxQ.get (A0 := w2) (show BoxQ w2 w.heap.size (.slice A1 n1 c1) (.string s) _ by assumption)).mono HB2.out.size))).mono ?_; rintro e wb ⟨gb, rfl, _, _, QB, _, hb⟩; (try have QA := (QA.below hb (Nat.le_refl _)).more hb.size))
        | (go_at_call 18; refine (ADS.out _ _ _ QA QB).mono ?_; rintro e wd ⟨v, rfl, ro, hb⟩; have hdd := BoxQ.get (A0 := w2) (show BoxQ w2 w.heap.size (.slice A1 n1 c1) (.string s) _ by assumption); have RO := ro.base hdd.size))
    all_goals (go_wp2_with fail; go_meet)
    all_goals exact ⟨rfl, RO, BoxQ.get (A0 := w2) (show BoxQ w2 w.heap.size (.slice A1 n1 c1) (.string s) _ by assumption)⟩
  case rest =>
    obtain ⟨rfl, RW, B3⟩ := hcut
    obtain ⟨w3, rfl⟩ : ∃ w3 : World, w3 = wc := ⟨_, rfl⟩
    have HB3 := Lib.hid (HB2.out.trans (B3.mono HB2.out.size))
    have HRW := Lib.hid RW
    have hs3 := B3.size
    clear RW B3 a0 a1 l2 ADS
    go_wp2_with fail
    refine (TRS.out _ HB3.out).mono ?_
    rintro e w4 ⟨es4, rfl, he4, O4, b4⟩
    have HB4 := Lib.hid (HB3.out.trans (b4.mono HB3.out.size))
    have HRW4 := Lib.hid (HRW.out.below b4)
    have HO4 := Lib.hid O4
    have HE4 := Lib.hid he4
    have hs4 := b4.size
    obtain ⟨l4, a0, a1⟩ := HK0.out.below HB4.out
    clear O4 he4 b4
    go_wp2_with fail
    refine (TR.out _ HB4.out).mono ?_
    rintro e w5 ⟨g5, rfl, hg5, hgl5, T5, own5, b5⟩
    obtain ⟨W6, hW6⟩ : ∃ W6, W6 = w5.alloc (.cells #[.slice (some ⟨g5, 0, none⟩) n1 n1, .string s] 39) := ⟨_, rfl⟩
    have HK6 : Hid (PairAt W6 w5.heap.size (.slice (some ⟨g5, 0, none⟩) n1 n1) (.string s)) := Lib.hid (by rw [hW6]; exact PairAt.new w5 _ _ _)
    have b6 : Below w5.heap.size w5 W6 := by rw [hW6]; exact alloc_below _ _
    have hs5 := b5.size
    have hs6 := b6.size
    have b46 := b5.trans (b6.mono hs5)
    have HB6 := Lib.hid (HB4.out.trans (b46.mono HB4.out.size))
    have HRW6 := Lib.hid (HRW4.out.below b46)
    have HO6 := Lib.hid (HO4.out.below b46)
    have R6 := Lib.hid (TOR.out _ _ _ _ _ HO6.out HE4.out)
    have N6 := Lib.hid ((T5.below b6 (Nat.le_refl _)).more hs6)
    have HOW5 := Lib.hid own5
    have HB56 := Lib.hid b6
    have hlt5 : w5.heap.size < W6.heap.size := HK6.out.1
    clear T5 own5 b5 b6 b46 a0 a1 l4
    go_wp2_with fail
    rw [← hW6]
    clear hW6
    refine (ADI.out _ _ _ R6.out N6.out).mono ?_
    rintro e w7 ⟨v7, rfl, ro7, b7⟩
    have HRO7 := Lib.hid ro7
    have HRW7 := Lib.hid (HRW6.out.below b7)
    have hs7 := b7.size
    have HB67 := Lib.hid b7
    have HB7 := Lib.hid (HB6.out.trans (b7.mono HB6.out.size))
    have hd : (code != code) = false := by simp
    clear ro7 b7
    go_wp2_with fail
    refine (eq_out HRO7.out HRW7.out HZS.out.2.1 HZS.out.2.2).mono ?_
    rintro e w8 ⟨rfl, b8⟩
    have HB68 := Lib.hid (HB67.out.trans (b8.mono hs7))
    have HB78 := Lib.hid b8
    have hs8 := b8.size
    have HB8 := Lib.hid (HB7.out.trans (b8.mono HB7.out.size))
    clear b8
    go_wp2_with fail
    refine (TRS.out _ HB8.out).mono ?_
    rintro e w9 ⟨es9, rfl, he9, O9, b9⟩
    have R9 := Lib.hid (TOR.out _ _ _ _ _ O9 he9)
    have HB69 := Lib.hid (HB68.out.trans (b9.mono HB68.out.size))
    have HB79 := Lib.hid (HB78.out.trans (b9.mono hs8))
    have R69 := Lib.hid ((R6.out.below HB69.out (Nat.le_refl _)).more HB69.out.size)
    have hs9 := b9.size
    have HB9 := Lib.hid (HB8.out.trans (b9.mono HB8.out.size))
    clear O9 he9 b9
    go_wp2_with fail
    refine (cEqRs _ _ n n n rs w9 HN.out R69.out R9.out).mono ?_
    rintro e w10 ⟨rfl, b10⟩
    have HB610 := Lib.hid (HB69.out.trans (b10.mono HB69.out.size))
    have HB710 := Lib.hid (HB79.out.trans (b10.mono HB79.out.size))
    have hs10 := b10.size
    have HB10 := Lib.hid (HB9.out.trans (b10.mono HB9.out.size))
    have KX := HK6.out.below HB610.out
    have KA := HK0.out.below HB10.out
    have HX := Lib.hid ((N6.out.below HB610.out (Nat.le_refl _)).more HB610.out.size)
    have HE := Lib.hid (fun (W : World) (g : Nat) (hW : Below w10.heap.size w10 W) (hg : NumAt W W.heap.size (some ⟨g, 0, none⟩) n1 xs) => cEqRule (some ⟨g5, 0, none⟩) (some ⟨g, 0, none⟩) n1 n1 n1 _ _ (xs, s) W HN1.out ((HX.out.below hW (Nat.le_refl _)).more hW.size) hg (Nat.le_refl _) (Nat.le_refl _))
    have KT := TwoR.start KX KA
    clear b10 KX KA R69 R9
    go_wp2_with fail
    go_cut [63] (fun p wx => p = .bool false ∧ Below w10.heap.size w10 wx)
    case first =>
      go_region_held3 (fun W => W.cell? ⟨w5.heap.size, 0, none⟩ = some (.slice (some ⟨g5, 0, none⟩) n1 n1) ∧ W.cell? ⟨w5.heap.size, 1, none⟩ = some (.string s) ∧ W.cell? ⟨w.heap.size, 0, none⟩ = some (.slice A1 n1 c1) ∧ W.cell? ⟨w.heap.size, 1, none⟩ = some (.string s) ∧ w5.heap.size < W.heap.size ∧ w.heap.size < W.heap.size ∧ Below w10.heap.size w10 W)
        (first | (exact KT) | (exact TwoR.keep (A0 := w10) (by assumption) hb) | assumption)
        (first
          | (go_at_call 19; refine (TR.out _ (HB10.out.trans ((show Below _ _ _ from (show TwoR w10 w5.heap.size (.slice (some ⟨g5, 0, none⟩) n1 n1) (.string s) w.heap.size (.slice A1 n1 c1) (.string s) _ by assumption).2.2.2.2.2.2).mono HB10.out.size))).mono ?_; rintro e wb ⟨gb, rfl, _, _, QB, _, hb⟩)
          | (go_at_call 21; refine (HE.out _ _ (show Below _ _ _ from (show TwoR w10 w5.heap.size (.slice (some ⟨g5, 0, none⟩) n1 n1) (.string s) w.heap.size (.slice A1 n1 c1) (.string s) _ by assumption).2.2.2.2.2.2) (by assumption)).mono ?_; rintro e wd ⟨rfl, hb⟩))
      all_goals (go_wp2_with fail; go_meet)
      all_goals exact ⟨rfl, (show TwoR w10 w5.heap.size (.slice (some ⟨g5, 0, none⟩) n1 n1) (.string s) w.heap.size (.slice A1 n1 c1) (.string s) _ by assumption).2.2.2.2.2.2⟩
    case rest =>
      obtain ⟨rfl, b11⟩ := hcut
      obtain ⟨w11, rfl⟩ : ∃ w11 : World, w11 = wc := ⟨_, rfl⟩
      have hs11 := b11.size
      have HB611 := Lib.hid (HB610.out.trans (b11.mono HB610.out.size))
      have HB711 := Lib.hid (HB710.out.trans (b11.mono HB710.out.size))
      have HB11 := Lib.hid (HB10.out.trans (b11.mono HB10.out.size))
      clear b11 KT HE HX
      have HO11 := Lib.hid (HO6.out.below HB611.out)
      have htot := totR_bulk HE4.out HN.out HO4.out.1
      have HS4 : Hid (∀ b ∈ w3.heap.size :: es4.map (·.1), w3.heap.size ≤ b ∧ b < w4.heap.size) := Lib.hid (HO4.out.2.mem_lt)
      have KX := HK6.out.below HB611.out
      have hs611 := HB611.out.size
      go_wp2_with fail
      refine (show Calls Try.prog _ _ w11 (MarkRPost w3.heap.size w3.heap.size n n 1 es4 w11) from cMarkRs w3.heap.size w3.heap.size n n 1 es4 w11 (by omega) (by omega) HNN.out HO11.out).mono ?_
      rintro e w12 ⟨rfl, _, F12⟩
      have hs12 := F12.size
      have HB12 := Lib.hid (F12.below HB11.out (fun b hb => by have := HS4.out b hb; have := HB3.out.size; omega) HB11.out.size)
      have HRW12 := Lib.hid ((HRW7.out.below HB711.out).frame F12 (fun b hb => by have := HS4.out b hb; right; omega))
      have HRO12 := Lib.hid ((HRO7.out.below HB711.out).frame F12 (fun b hb => by have := HS4.out b hb; left; omega))
      have hbx : w12.heap[w5.heap.size]? = w11.heap[w5.heap.size]? := F12.block _ KX.1 (fun hm => by have := (HS4.out _ hm).2; omega)
      obtain ⟨l12, x0, x1⟩ : PairAt w12 w5.heap.size (.slice (some ⟨g5, 0, none⟩) n1 n1) (.string s) := ⟨Nat.lt_of_lt_of_le KX.1 hs12, (World.cell?_of_block hbx).trans KX.2.1, (World.cell?_of_block hbx).trans KX.2.2⟩
      have hb5g : w12.heap[g5]? = w5.heap[g5]? := by
        rw [F12.block g5 (by omega) (fun hm => by have := (HS4.out _ hm).2; omega), HB611.out.block g5 (by omega), HB56.out.block g5 hgl5]
      have HOW12 : Hid (0 < n1 → w12.ownsRow g5 2 1 (.slice (some ⟨g5, 0, none⟩) n1 n1) n1 (intV xs)) := Lib.hid (fun hp => ownsRow_block (HOW5.out hp) hb5g)
      obtain ⟨T4, hT4⟩ : ∃ T, T = 1 + totR es4 := ⟨_, rfl⟩
      have hT4b : T4 ≤ 1048577 := by omega
      rw [← hT4]
      have HNX : Hid (n1 = xs.length) := Lib.hid N6.out.1
      clear F12 KX hbx hb5g hT4 htot
      go_wp2_with fail
      refine (cMarkRule g5 g5 n1 n1 T4 xs s w12 (by omega) HNX.out (by have := HN1.out; omega) HOW12.out (by omega)).mono ?_
      rintro e w13 ⟨rfl, F13⟩
      have hs13 := F13.size
      have HB13 := Lib.hid (F13.below HB12.out (fun b hb => by simp at hb; subst hb; have := HB4.out.size; omega) HB12.out.size)
      have HRW13 := Lib.hid (HRW12.out.frame F13 (fun b hb => by simp at hb; subst hb; right; omega))
      have HRO13 := Lib.hid (HRO12.out.frame F13 (fun b hb => by simp at hb; subst hb; left; omega))
      have hlt4 : ¬ ((T4 + n1 : Nat) : Int) < 0 := by omega
      obtain ⟨T5, hT5⟩ : ∃ T, T = T4 + n1 := ⟨_, rfl⟩
      rw [← hT5] at hlt4 ⊢
      clear F13 x0 x1 l12 hT5 hT4b
      go_wp2_with fail
      refine (eq_out HRO13.out HRW13.out HZS.out.2.1 HZS.out.2.2).mono ?_
      rintro e w14 ⟨rfl, b14⟩
      have HRW14 := Lib.hid (HRW13.out.below b14)
      have HRO14 := Lib.hid (HRO13.out.below b14)
      have HB14 := Lib.hid (HB13.out.trans (b14.mono HB13.out.size))
      have hs14 := b14.size
      obtain ⟨T, S, hT, hS, CM⟩ := mark_out HRO14.out HZS.out.2.1 HZS.out.1
      have HCM := Lib.hid CM
      have HSS := Lib.hid hS
      clear b14 CM hS
      go_wp2_with fail
      refine HCM.out.mono ?_
      rintro e w15 ⟨rfl, F15, held⟩
      obtain ⟨M, hM⟩ : ∃ M : Int, M = ((1 + T : Nat) : Int) := ⟨_, rfl⟩
      have HELD2 : Hid (∀ W, Below w15.heap.size w15 W → Calls Try.prog 23 #[v7, .int .i64 1] W (fun e w'' => e = .returned (.int .i64 M) ∧ Below W.heap.size W w'')) := Lib.hid (by rw [hM]; exact held)
      have hlt1 : ¬ M < 0 := by omega
      have hqm : (M != M) = false := by simp
      rw [← hM]
      have hs15 := F15.size
      have HB15 := Lib.hid (F15.below HB14.out (fun b hb => by have := HSS.out b hb; have := HB6.out.size; omega) HB14.out.size)
      have HRW15 := Lib.hid (HRW14.out.frame F15 (fun b hb => by have := HSS.out b hb; right; omega))
      clear F15 held HCM hM hT
      go_wp2_with fail
      refine (HELD2.out _ (Below.refl _ _)).mono ?_
      rintro e w16 ⟨rfl, b16⟩
      have HB1516 := Lib.hid b16
      have hs16 := b16.size
      have HB16 := Lib.hid (HB15.out.trans (b16.mono HB15.out.size))
      have HRW16 := Lib.hid (HRW15.out.below b16)
      obtain ⟨l16, a0, a1⟩ := HK0.out.below HB16.out
      clear b16
      go_wp2_with fail
      go_cut [15, 16] (fun p q wx => q = .int .i64 code ∧ ROut wx w16.heap.size wx.heap.size p zs ∧ Below w16.heap.size w16 wx)
      case first =>
        go_region_held3 (fun W => W.cell? ⟨w.heap.size, 0, none⟩ = some (.slice A1 n1 c1) ∧ W.cell? ⟨w.heap.size, 1, none⟩ = some (.string s) ∧ w.heap.size < W.heap.size ∧ Below w16.heap.size w16 W)
          (first | (exact ⟨a0, a1, l16, (Below.refl _ _).drew⟩) | (exact BoxQ.keep (A0 := w16) (by assumption) hb) | assumption)
          (first
            | (go_at_call 8; refine (TRS.out _ (HB16.out.trans ((BoxQ.get (A0 := w16) (show BoxQ w16 w.heap.size (.slice A1 n1 c1) (.string s) _ by assumption)).mono HB16.out.size))).mono ?_; rintro e wa ⟨esa, rfl, hea, oa, hb⟩; have QA := TOR.out _ _ _ _ _ oa hea; (try have QB := (QB.below hb (Nat.le_refl _)).more hb.size))
            | (go_at_call 19; refine (TR.out _ (HB16.out.trans ((BoxQ.get (A0 := w16) (show BoxQ w16 w.heap.size (.slice A1 n1 c1) (.string s) _ by assumption)).mono HB16.out.size))).mono ?_; rintro e wb ⟨gb, rfl, _, _, QB, _, hb⟩; (try have QA := (QA.below hb (Nat.le_refl _)).more hb.size))
            | (go_at_call 20; refine (ADI.out _ _ _ QA QB).mono ?_; rintro e wd ⟨v, rfl, ro, hb⟩; have hdd := BoxQ.get (A0 := w16) (show BoxQ w16 w.heap.size (.slice A1 n1 c1) (.string s) _ by assumption); have RO := ro.base hdd.size))
        all_goals (go_wp2_with fail; go_meet)
        all_goals exact ⟨rfl, RO, BoxQ.get (A0 := w16) (show BoxQ w16 w.heap.size (.slice A1 n1 c1) (.string s) _ by assumption)⟩
      case rest =>
        obtain ⟨rfl, RM, b17⟩ := hcut
        obtain ⟨w17, rfl⟩ : ∃ w17 : World, w17 = wc := ⟨_, rfl⟩
        have HRM := Lib.hid RM
        have HB17 := Lib.hid (HB16.out.trans (b17.mono HB16.out.size))
        have HB1517 := Lib.hid (HB1516.out.trans (b17.mono hs16))
        have HRW17 := Lib.hid (HRW16.out.below b17)
        clear RM b17 a0 a1 l16
        go_wp2_with fail
        refine (eq_out HRM.out HRW17.out HZS.out.2.1 HZS.out.2.2).mono ?_
        rintro e w18 ⟨rfl, b18⟩
        have HB18 := Lib.hid (HB17.out.trans (b18.mono HB17.out.size))
        have HB1518 := Lib.hid (HB1517.out.trans (b18.mono HB1517.out.size))
        clear b18
        go_wp2_with fail
        refine (HELD2.out _ HB1518.out).mono ?_
        rintro e w19 ⟨rfl, b19⟩
        have HF := Lib.hid (HBA.out.trans ((HB18.out.trans (b19.mono HB18.out.size)).mono HBA.out.size))
        clear b19
        go_wp2_with fail
        go_ret
        exact ⟨rfl, HF.out⟩
end Go.Proofs.Ytmelbfpdahaahaa
