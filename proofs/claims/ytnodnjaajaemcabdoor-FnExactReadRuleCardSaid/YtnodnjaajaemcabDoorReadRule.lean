/-
  The contracts of ReadRule of both packages.
-/
import Derived.Test.YtnodnjaajaemcabDoorReadRPlain
namespace Go.Proofs.YtnodnjaajaemcabDoor
set_option linter.unusedVariables false
open Go.RowKit

theorem shaped_belowR {P : Program} {w w' : World} (h : w.ShapedOpen P) (hb : Below w.heap.size w w') : w'.ShapedOpen P := h.keptBut (hb.frame (fun _ => False)) (fun _ f => f.elim)
/-- A rule and a code come back; the rule's numbers are new. -/
def RRPost (r : Ru) (c : Int) (w : World) (e : Ending) (w' : World) : Prop :=
  ∃ A n cap, e = .returned (.tuple #[.agg #[.slice A n cap, .string r.2], .int .i64 c]) ∧ w'.ownsRow w.heap.size 2 1 (.slice A n cap) n (intV r.1) ∧ Below w.heap.size w w'
theorem ownsRow_keepD {w w' : World} {B s n : Nat} {t : TypeId} {v : Value} {xs : List Value} (h : w.ownsRow B t s v n xs) (hb : Below w.heap.size w w') : w'.ownsRow B t s v n xs := by
  refine World.ownsRow.kept h (bgr hb none) ?_
  cases hC : v.ownBlock with
  | none => exact .inl rfl
  | some x => exact .inr (fun e => by cases e)
theorem two_sets (w : World) (a b : Addr) (u v : Value) (g : Nat) (ha : g ≠ a.block) (hb : g ≠ b.block) : ((w.setCell a u).setCell b v).heap[g]? = w.heap[g]? := by
  rw [Below.heap_setCell _ _ _ _ hb, Below.heap_setCell _ _ _ _ ha]
theorem sets_below {B : Nat} {w w' : World} (h : Below B w w') {g : Nat} (hg : B ≤ g) (x y : Value) : Below B w ((w'.setCell ⟨g, 0, none⟩ x).setCell ⟨g, 1, none⟩ y) := (h.setCell hg x).setCell hg y

set_option maxHeartbeats 2000000 in
set_option maxRecDepth 100000 in
theorem cRR_impl (s : ByteArray) (o : Option (List Int)) (w : World) (hs : s.size ≤ 1048576) (hl : Laid w) (hsh : w.ShapedOpen Tryd.prog) (hcase : RNum 43 3 (cutA s) o) :
    Calls Tryd.prog 17 #[.string s] w (RRPost (readR s o) (readC s o) w) := by
  have B0 := alloc_below w (.cells #[.slice none 0 0, .string ByteArray.empty] 34)
  have K0 := PairW.new w (.slice none 0 0) (.string ByteArray.empty) 34
  have hA : (cutA s).size ≤ 1048576 ∧ (cutB s).size ≤ 1048576 := by
    have hz := size_list s
    have hza := size_list (cutA s)
    have hzb := size_list (cutB s)
    have e1 : (cutA s).data.toList = (Lib.cut s.data.toList [61]).1 := rfl
    have e2 : (cutB s).data.toList = (Lib.cut s.data.toList [61]).2.1 := rfl
    cases hf : cutF s
    · have h0 : (Lib.cut s.data.toList [61]) = (s.data.toList, [], false) := by
        unfold cutF at hf
        unfold Lib.cut at hf ⊢
        split at hf
        · cases hf
        · rename_i hh; rw [if_neg hh]
      rw [h0] at e1 e2
      have h5 : (cutA s).size = s.size := by rw [← hza, e1]; exact hz
      have h6 : (cutB s).size = 0 := by rw [← hzb, e2]; rfl
      omega
    · have h1 := congrArg List.length (cut_yes hf).1
      rw [List.length_append, List.length_cons] at h1
      omega
  have CC := Lib.hid (Tryd.strings_Cut_shaped s (sepB 61) _ (shaped_belowR hsh B0) (by omega))
  have CN := Lib.hid (fun (W : World) (hW : Below w.heap.size w W) => cReadN 43 noS_43 3 (by omega) (by omega) (cutA s) o W (by omega) (hl.below hW) (shaped_belowR hsh hW) hcase)
  have HA := Lib.hid hA
  have HB0 := Lib.hid B0
  have HR := Lib.hid hcase
  have hz0 : w.heap.size < (w.alloc (.cells #[.slice none 0 0, .string ByteArray.empty] 34)).heap.size := by simp
  clear hl hsh hcase hA B0
  go_enter Tryd.func17, Tryd.ntmps17
  go_wp2_with fail
  refine (show Calls Tryd.prog _ #[.string s, .string (sepB 61)] _ (fun e w' => e = .returned (.tuple #[.string (cutA s), .string (cutB s), .bool (cutF s)]) ∧ ∃ n, w' = World.drewN _ n) from CC.out).mono ?_
  rintro e w1 ⟨rfl, q, hw1⟩
  have hb1 : Below (w.alloc (.cells #[.slice none 0 0, .string ByteArray.empty] 34)).heap.size (w.alloc (.cells #[.slice none 0 0, .string ByteArray.empty] 34)) w1 := by
    rw [hw1]; exact ⟨rfl, rfl, rfl, Nat.le_refl _, fun _ _ => rfl⟩
  have K1 := K0.below hb1
  have B1 := HB0.out.trans (hb1.mono HB0.out.size)
  have hz1 : w.heap.size < w1.heap.size := Nat.lt_of_lt_of_le hz0 hb1.size
  obtain ⟨a, ha⟩ : ∃ a, a = cutA s := ⟨_, rfl⟩
  obtain ⟨b, hb⟩ : ∃ b, b = cutB s := ⟨_, rfl⟩
  obtain ⟨f, hf⟩ : ∃ f, f = cutF s := ⟨_, rfl⟩
  rw [← ha, ← hb, ← hf]
  have HA1 := Lib.hid ha
  have HB1 := Lib.hid hb
  have HF := Lib.hid hf
  have CN1 := Lib.hid (CN.out w1 B1)
  rw [← ha] at CN1
  clear ha hb hf hw1 hb1 K0 CN hz0
  go_wp2_with fail
  refine CN1.out.mono ?_
  rintro e w2 (⟨hO, rfl, hb2⟩ | ⟨vs, g, c, hO, rfl, hown, hb2⟩)
  · have hg : GoodR s o = false := by unfold GoodR; rw [hO]; exact Bool.and_false _
    have HG : Hid (readR s o = ([], ByteArray.empty) ∧ readC s o = 6) := Lib.hid (by unfold readR readC; rw [hg]; exact ⟨rfl, rfl⟩)
    have K2 := K1.below hb2
    have K3 := K2.alloc (.cells #[.slice none 0 0, .string b] 34)
    have B2 := B1.trans (hb2.mono B1.size)
    have B3 := B2.alloc B2.size (.cells #[.slice none 0 0, .string b] 34)
    obtain ⟨⟨l3, a0, a1⟩, f0, f1⟩ := K3
    clear hg hO K1 K2 hb2 B1 B2
    cases f
    all_goals
      go_wp2_with fail
      refine bodyPost_ret (v := .tuple #[.agg #[.slice none 0 0, .string ByteArray.empty], .int .i64 6]) (by simp [results, Tryd.results17, go_sem, a0, a1] <;> rfl) rfl ⟨none, 0, 0, by rw [HG.out.1, HG.out.2], by rw [HG.out.1]; exact World.ownsRow_nil _ _ _ _, sets_below B3 (Nat.le_refl _) _ _⟩
  · have K2 := K1.below hb2
    have B2 := B1.trans (hb2.mono B1.size)
    have K3 := K2.alloc (.cells #[.slice (some ⟨g, 0, none⟩) vs.length c, .string b] 34)
    have A3 := alloc_below w2 (.cells #[.slice (some ⟨g, 0, none⟩) vs.length c, .string b] 34)
    have P3 := PairAt.new w2 (.slice (some ⟨g, 0, none⟩) vs.length c) (.string b) 34
    have B3 := B2.trans (A3.mono B2.size)
    obtain ⟨n, hn⟩ : ∃ n, n = vs.length := ⟨_, rfl⟩
    rw [← hn] at hown K3 A3 P3 B3 ⊢
    have HNV := Lib.hid hn
    have hgb : w.heap.size < g ∧ g < w2.heap.size := by have := hown.lt g rfl; omega
    cases f
    · have hg : GoodR s o = false := by unfold GoodR; rw [← HF.out]; rfl
      have HG : Hid (readR s o = ([], ByteArray.empty) ∧ readC s o = 6) := Lib.hid (by unfold readR readC; rw [hg]; exact ⟨rfl, rfl⟩)
      obtain ⟨⟨l3, a0, a1⟩, f0, f1⟩ := K3
      clear hg hO K1 K2 hb2 B1 B2 hn
      go_wp2_with fail
      refine bodyPost_ret (v := .tuple #[.agg #[.slice none 0 0, .string ByteArray.empty], .int .i64 6]) (by simp [results, Tryd.results17, go_sem, a0, a1] <;> rfl) rfl ⟨none, 0, 0, by rw [HG.out.1, HG.out.2], by rw [HG.out.1]; exact World.ownsRow_nil _ _ _ _, sets_below B3 (Nat.le_refl _) _ _⟩
    · have hN : NumAt w2 w2.heap.size (some ⟨g, 0, none⟩) n vs := numAt_own hown
      have hn3 : n ≤ 3 := by
        have := HR.out
        rw [hO] at this
        have := this.2.1
        omega
      have CI := Lib.hid (cIsRule_impl (some ⟨g, 0, none⟩) n c w2.heap.size (vs, b) _ (by unfold maxLen; omega) (by show b.size ≤ maxLen; have := HA.out.2; rw [← HB1.out] at this; unfold maxLen; omega) (hN.below A3 (Nat.le_refl _)) A3.size)
      have hgr : GoodR s o = ruleB (vs, b) := by unfold GoodR; rw [← HF.out, hO, HB1.out]; rfl
      cases hr : ruleB (vs, b)
      · rw [hr] at CI hgr
        have HG : Hid (readR s o = ([], ByteArray.empty) ∧ readC s o = 6) := Lib.hid (by unfold readR readC; rw [hgr]; exact ⟨rfl, rfl⟩)
        clear hgr hr hO K1 K2 hb2 B1 hn hN
        go_wp2_with fail
        refine CI.out.mono ?_
        rintro e w4 ⟨rfl, hb4⟩
        obtain ⟨⟨l3, a0, a1⟩, f0, f1⟩ := K3.below hb4
        have B4 := B3.trans (hb4.mono B3.size)
        clear K3 hb4
        go_wp2_with fail
        refine bodyPost_ret (v := .tuple #[.agg #[.slice none 0 0, .string ByteArray.empty], .int .i64 6]) (by simp [results, Tryd.results17, go_sem, a0, a1] <;> rfl) rfl ⟨none, 0, 0, by rw [HG.out.1, HG.out.2], by rw [HG.out.1]; exact World.ownsRow_nil _ _ _ _, sets_below B4 (Nat.le_refl _) _ _⟩
      · rw [hr] at CI hgr
        have HG : Hid (readR s o = (vs, b) ∧ readC s o = 0) := Lib.hid (by unfold readR readC; rw [hgr, hO, HB1.out]; exact ⟨rfl, rfl⟩)
        clear hgr hr hO K1 K2 hb2 B1 hn hN
        go_wp2_with fail
        refine CI.out.mono ?_
        rintro e w4 ⟨rfl, hb4⟩
        obtain ⟨⟨l3, a0, a1⟩, f0, f1⟩ := K3.below hb4
        obtain ⟨l5, c0, c1⟩ := P3.below hb4
        have B4 := B3.trans (hb4.mono B3.size)
        have HO4 := Lib.hid (rowBase (ownsRow_keepD (ownsRow_keepD hown A3) hb4) (Nat.le_of_lt hz1))
        clear K3 hb4 P3
        go_wp2_with fail
        refine bodyPost_ret (v := .tuple #[.agg #[.slice (some ⟨g, 0, none⟩) n c, .string b], .int .i64 0]) (by simp [results, Tryd.results17, go_sem, a0, a1]) rfl ⟨_, n, c, by rw [HG.out.1, HG.out.2], by rw [HG.out.1]; exact ownsRow_block HO4.out (two_sets _ _ _ _ _ g (by show g ≠ w.heap.size; omega) (by show g ≠ w.heap.size; omega)), sets_below B4 (Nat.le_refl _) _ _⟩

theorem row_sliceD {w : World} {b n : Nat} {v : Value} {t : TypeId} {s : Nat} {xs : List Value} (h : w.ownsRow b t s v n xs) (hp : 0 < n) : ∃ g c, v = .slice (some ⟨g, 0, none⟩) n c ∧ b ≤ g ∧ g < w.heap.size := by
  rcases h.2 with ⟨rfl, h0⟩ | ⟨g, cap, cur, rfl, h1, h2, _⟩
  · omega
  · exact ⟨g, cap, rfl, h1, (Array.getElem?_eq_some_iff.1 h2).1⟩

set_option maxHeartbeats 2000000 in
set_option maxRecDepth 100000 in
theorem cRR_spec (s : ByteArray) (o : Option (List Int)) (w : World) (hs : s.size ≤ 1048576) (hcase : RNum 43 3 (cutA s) o) :
    Calls Tryd.prog 16 #[.string s] w (RRPost (readR s o) (readC s o) w) := by
  have B0 := alloc_below w (.cells #[.slice none 0 0, .string ByteArray.empty] 34)
  have K0 := PairW.new w (.slice none 0 0) (.string ByteArray.empty) 34
  have hz0 : w.heap.size < (w.alloc (.cells #[.slice none 0 0, .string ByteArray.empty] 34)).heap.size := by simp
  have CS := Lib.hid (fun W => cSplit 61 61 rfl s W (by omega))
  have hpos := pieces_pos 61 s
  have hmax := pieces_len 61 s
  have HB0 := Lib.hid B0
  have HR := Lib.hid hcase
  obtain ⟨P, hP⟩ : ∃ P, P = piecesB 61 s := ⟨_, rfl⟩
  obtain ⟨n, hn⟩ : ∃ n, n = P.length := ⟨_, rfl⟩
  rw [← hP, ← hn] at hpos hmax CS
  have HP := Lib.hid hP
  have HN := Lib.hid hn
  clear hcase B0 hP hn
  go_enter Tryd.func16, Tryd.ntmps16
  go_wp2_with fail
  refine (CS.out _).mono ?_
  rintro e w1 ⟨v, rfl, hown, hb1⟩
  obtain ⟨g, c, rfl, hg1, hg2⟩ := row_sliceD hown hpos
  have K1 := K0.below hb1
  have B1 := HB0.out.trans (hb1.mono HB0.out.size)
  have hz1 : w.heap.size < w1.heap.size := Nat.lt_of_lt_of_le hz0 hb1.size
  clear K0 hb1 hz0 CS
  by_cases h2 : n = 2
  · have hp2 := pieces_len2 (s := s) (by rw [← HP.out, ← HN.out, h2])
    have hf := hp2.1
    have hPP : P = [cutA s, cutB s] := HP.out.trans hp2.2
    have hsz : (cutA s).size ≤ 1048576 ∧ (cutB s).size ≤ 1048576 := by
      have h1 := congrArg List.length (cut_yes hf).1
      rw [List.length_append, List.length_cons, size_list, size_list, size_list] at h1
      omega
    have HG0 : Hid (GoodR s o = true → ∃ vs, o = some vs ∧ ruleB (vs, cutB s) = true ∧ piecesB 61 s = [cutA s, cutB s] ∧ piecesB 43 (cutA s) = nums vs ∧ sAll (nums vs) = true ∧ (nums vs).map sN = vs ∧ textR (vs, cutB s) = s) := Lib.hid (fun h => good_facts h HR.out)
    have HG1 : Hid (GoodR s o = false → sAll (piecesB 43 (cutA s)) = true → ruleB ((piecesB 43 (cutA s)).map sN, cutB s) = false) := Lib.hid (fun h => bad_facts h HR.out (by rw [← HP.out, ← HN.out, h2]))
    have hc0 : w1.cell? ⟨g, 0, none⟩ = some (.string (cutA s)) := (hown.cellAt 0 (by omega)).trans (by rw [hPP]; rfl)
    have hc1 : w1.cell? ⟨g, 1, none⟩ = some (.string (cutB s)) := (hown.cellAt 1 (by omega)).trans (by rw [hPP]; rfl)
    subst h2
    have CS2 := Lib.hid (fun W => cSplit 43 43 rfl (cutA s) W (by omega))
    have hpos2 := pieces_pos 43 (cutA s)
    have hmax2 := pieces_len 43 (cutA s)
    have hps : ∀ x ∈ piecesB 43 (cutA s), x.size ≤ 1073741824 := by
      intro x hx
      have hq := (cutN_facts 43 ((piecesB 43 (cutA s)).length + 1) (cutA s) (by omega)).2.2.2 (by omega)
      rw [← hq] at hx
      have := piece_sz 43 _ (cutA s) x hx
      omega
    obtain ⟨a, ha⟩ : ∃ a, a = cutA s := ⟨_, rfl⟩
    obtain ⟨b, hb⟩ : ∃ b, b = cutB s := ⟨_, rfl⟩
    obtain ⟨Q, hQ⟩ : ∃ Q, Q = piecesB 43 (cutA s) := ⟨_, rfl⟩
    rw [← hQ] at CS2 hpos2 hmax2 HG0 HG1 hps
    rw [← ha] at CS2 hmax2 hc0 hsz HG0
    rw [← hb] at hc1 hsz HG0 HG1
    obtain ⟨m, hm⟩ : ∃ m, m = Q.length := ⟨_, rfl⟩
    rw [← hm] at CS2 hpos2 hmax2
    have HM := Lib.hid hm
    have HQ := Lib.hid hQ
    have HBB := Lib.hid hb
    have hsa := hsz.1
    have hsb := hsz.2
    clear hp2 hf hPP hown ha hb hQ hm hsz
    go_wp2_with fail
    refine (CS2.out _).mono ?_
    rintro e w2 ⟨v2, rfl, hown2, hb2⟩
    obtain ⟨g2, c2, rfl, hg21, hg22⟩ := row_sliceD hown2 hpos2
    have CNM := Lib.hid (cNumbers g2 c2 m Q w2 HM.out (by omega) hg22 hps (fun j x hx => (hown2.cellAt j (by have := (List.getElem?_eq_some_iff.1 hx).1; have := HM.out; omega)).trans (strV_at _ _ _ hx)))
    have K2 := K1.below hb2
    have B2 := B1.trans (hb2.mono B1.size)
    have k1 : w2.cell? ⟨g, 1, none⟩ = some (.string b) := (hb2.cell (p := ⟨g, 1, none⟩) hg2).trans hc1
    have hz2 : w.heap.size < w2.heap.size := Nat.lt_of_lt_of_le hz1 hb2.size
    have hgw2 : g < w2.heap.size := Nat.lt_of_lt_of_le hg2 hb2.size
    clear K1 hb2 B1 CS2 hown2 hps hc0 hc1
    go_wp2_with fail
    refine CNM.out.mono ?_
    rintro e w3 ⟨hb3, hcs⟩
    have K3 := K2.below hb3
    have B3 := B2.trans (hb3.mono B2.size)
    have k13 : w3.cell? ⟨g, 1, none⟩ = some (.string b) := (hb3.cell (p := ⟨g, 1, none⟩) hgw2).trans k1
    rcases hcs with ⟨hsf, rfl⟩ | ⟨hst, A3, cap3, rfl, hown3⟩
    · have hg : GoodR s o = false := by
        cases h : GoodR s o
        · rfl
        · obtain ⟨vs, _, _, _, h4, h5, _⟩ := HG0.out h
          rw [h4, h5] at hsf; cases hsf
      have HG : Hid (readR s o = ([], ByteArray.empty) ∧ readC s o = 6) := Lib.hid (by unfold readR readC; rw [hg]; exact ⟨rfl, rfl⟩)
      have K4 := K3.alloc (.cells #[.slice none 0 0, .string b] 34)
      have B4 := B3.alloc B3.size (.cells #[.slice none 0 0, .string b] 34)
      obtain ⟨⟨l3, a0, a1⟩, f0, f1⟩ := K4
      clear hg hsf K2 K3 hb3 B2 B3
      go_wp2_with fail
      refine bodyPost_ret (v := .tuple #[.agg #[.slice none 0 0, .string ByteArray.empty], .int .i64 6]) (by simp [results, Tryd.results16, go_sem, a0, a1] <;> rfl) rfl ⟨none, 0, 0, by rw [HG.out.1, HG.out.2], by rw [HG.out.1]; exact World.ownsRow_nil _ _ _ _, sets_below B4 (Nat.le_refl _) _ _⟩
    · rw [← HM.out] at hown3 ⊢
      obtain ⟨g3, c3, e3, hg31, hg32⟩ := row_sliceD hown3 hpos2
      obtain ⟨rfl, rfl⟩ : A3 = some ⟨g3, 0, none⟩ ∧ cap3 = c3 := by injection e3 with e1 e2 e4; exact ⟨e1, e4⟩
      have A4 := alloc_below w3 (.cells #[.slice (some ⟨g3, 0, none⟩) m cap3, .string b] 34)
      have P4 := PairAt.new w3 (.slice (some ⟨g3, 0, none⟩) m cap3) (.string b) 34
      have K4 := K3.alloc (.cells #[.slice (some ⟨g3, 0, none⟩) m cap3, .string b] 34)
      have B4 := B3.trans (A4.mono B3.size)
      have hN := numAt_own hown3
      obtain ⟨us, hus⟩ : ∃ us, us = Q.map sN := ⟨_, rfl⟩
      rw [← hus] at hN hown3
      have CI := Lib.hid (cIsRule_spec (some ⟨g3, 0, none⟩) m cap3 w3.heap.size (us, b) _ (by unfold maxLen; omega) (by show b.size ≤ maxLen; unfold maxLen; omega) (hN.below A4 (Nat.le_refl _)) A4.size)
      have HO3 := Lib.hid hown3
      have HNN := Lib.hid hN
      have HUS := Lib.hid hus
      clear e3 hown3 hN hus K2 K3 B2 k1
      cases hr : ruleB (us, b)
      · rw [hr] at CI
        have hg : GoodR s o = false := by
          cases h : GoodR s o
          · rfl
          · obtain ⟨vs, _, h3, _, h4, _, h6, _⟩ := HG0.out h
            rw [HUS.out, h4, h6, h3] at hr; cases hr
        have HG : Hid (readR s o = ([], ByteArray.empty) ∧ readC s o = 6) := Lib.hid (by unfold readR readC; rw [hg]; exact ⟨rfl, rfl⟩)
        clear hg hr
        go_wp2_with fail
        refine CI.out.mono ?_
        rintro e w5 ⟨rfl, hb5⟩
        obtain ⟨⟨l3, a0, a1⟩, f0, f1⟩ := K4.below hb5
        have B5 := B4.trans (hb5.mono B4.size)
        clear K4 hb5 P4
        go_wp2_with fail
        refine bodyPost_ret (v := .tuple #[.agg #[.slice none 0 0, .string ByteArray.empty], .int .i64 6]) (by simp [results, Tryd.results16, go_sem, a0, a1] <;> rfl) rfl ⟨none, 0, 0, by rw [HG.out.1, HG.out.2], by rw [HG.out.1]; exact World.ownsRow_nil _ _ _ _, sets_below B5 (Nat.le_refl _) _ _⟩
      · rw [hr] at CI
        have hg : GoodR s o = true := by
          cases h : GoodR s o
          · have := HG1.out h hst
            rw [← HUS.out, hr] at this; cases this
          · rfl
        obtain ⟨vs, ho, h3, _, h4, h5, h6, h7⟩ := HG0.out hg
        have hvs : us = vs := by rw [HUS.out, h4, h6]
        subst hvs
        have HG : Hid (readR s o = (us, b) ∧ readC s o = 0) := Lib.hid (by unfold readR readC; rw [hg, ho, HBB.out]; exact ⟨rfl, rfl⟩)
        have CT := Lib.hid (fun (W : World) (hW : Below w3.heap.size w3 W) => cText g3 m cap3 (us, b) W hr ((HNN.out.below hW (Nat.le_refl _)).more hW.size))
        rw [h7] at CT
        have hd : (s.toList == s.toList) = true := by simp
        clear hg hr ho h3 h4 h5 h6 h7 hst
        go_wp2_with fail
        refine CI.out.mono ?_
        rintro e w5 ⟨rfl, hb5⟩
        have K5 := K4.below hb5
        have P5 := P4.below hb5
        have B5 := B4.trans (hb5.mono B4.size)
        have A5 := A4.trans (hb5.mono A4.size)
        obtain ⟨l5, c0, c1⟩ := id P5
        clear K4 hb5 P4 A4 B4
        go_wp2_with fail
        refine (CT.out _ A5).mono ?_
        rintro e w6 ⟨rfl, hb6⟩
        obtain ⟨⟨l3, a0, a1⟩, f0, f1⟩ := K5.below hb6
        obtain ⟨l6, d0, d1⟩ := P5.below hb6
        have B6 := B5.trans (hb6.mono B5.size)
        have HO6 := Lib.hid (rowBase (ownsRow_keepD (ownsRow_keepD HO3.out A5) hb6) (Nat.le_of_lt hz2))
        have hgg : g3 ≠ w.heap.size := by omega
        clear K5 hb6 P5 A5 B5 c0 c1 l5
        go_wp2_with fail
        refine bodyPost_ret (v := .tuple #[.agg #[.slice (some ⟨g3, 0, none⟩) m cap3, .string b], .int .i64 0]) (by simp [results, Tryd.results16, go_sem, a0, a1]) rfl ⟨_, m, cap3, by rw [HG.out.1, HG.out.2], by rw [HG.out.1]; exact ownsRow_block HO6.out (two_sets _ _ _ _ _ g3 (by exact hgg) (by exact hgg)), sets_below B6 (Nat.le_refl _) _ _⟩
  · have hg : GoodR s o = false := by
      cases h : GoodR s o
      · rfl
      · obtain ⟨vs, _, _, h3, _⟩ := good_facts h HR.out
        exfalso
        apply h2
        rw [HN.out, HP.out, h3]; rfl
    have HG : Hid (readR s o = ([], ByteArray.empty) ∧ readC s o = 6) := Lib.hid (by unfold readR readC; rw [hg]; exact ⟨rfl, rfl⟩)
    obtain ⟨⟨l3, a0, a1⟩, f0, f1⟩ := K1
    have d0 : ((n : Int) != 2) = true := by simp; omega
    have d1 : (n != 2) = true := by simpa using h2
    clear hg hown h2
    go_wp2_with fail
    refine bodyPost_ret (v := .tuple #[.agg #[.slice none 0 0, .string ByteArray.empty], .int .i64 6]) (by simp [results, Tryd.results16, go_sem, a0, a1] <;> rfl) rfl ⟨none, 0, 0, by rw [HG.out.1, HG.out.2], by rw [HG.out.1]; exact World.ownsRow_nil _ _ _ _, sets_below B1 (Nat.le_refl _) _ _⟩
end Go.Proofs.YtnodnjaajaemcabDoor
