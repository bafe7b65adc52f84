/-
  The contract of spec.l04Draw.
-/
import Derived.Test.YtnfdbpfegmodcaaDrawGood
namespace Go.Proofs.Ytnfdbpfegmodcaa
set_option linter.unusedVariables false
open Go.RowKit

/-- A drawn table: a row of one's own from its k-th rule on. -/
def DTPost (B len : Nat) (w : World) (e : Ending) (w' : World) : Prop := ∃ (g c k : Nat) (es : List El), es.length ≤ 31 ∧ k ≤ 4 ∧ k ≤ es.length ∧ es.length ≤ c ∧ c ≤ maxLen ∧ e = .returned (.slice (some ⟨g, k * 2, none⟩) (es.length - k) (c - k)) ∧ DTab w' w.heap.size (.slice (some ⟨g, 0, none⟩) es.length c) es ∧ SmlR es ∧ Src w' B len ∧ w.grownBy w' (some B)
theorem DTab.caps {w : World} {R g n c : Nat} {es : List El} (h : DTab w R (.slice (some ⟨g, 0, none⟩) n c) es) : es.length ≤ c ∧ c ≤ maxLen := by
  rcases h.row.2 with ⟨h1, _⟩ | ⟨g', cap, cur, h1, h2, h3, h4, h5, _⟩
  · cases h1
  · cases h1; exact ⟨h4, h5⟩
theorem DTPost.mk {B len g c : Nat} {w w' : World} {es : List El} (hl : es.length ≤ 31) (h : DTab w' w.heap.size (.slice (some ⟨g, 0, none⟩) es.length c) es) (hs : SmlR es) (hS : Src w' B len) (hg : w.grownBy w' (some B)) : DTPost B len w (.returned (.slice (some ⟨g, 0, none⟩) es.length c)) w' :=
  ⟨g, c, 0, es, hl, by omega, by omega, h.caps.1, h.caps.2, rfl, h, hs, hS, hg⟩

set_option maxHeartbeats 4000000 in
set_option maxRecDepth 100000 in
theorem cDrawTable (B len : Nat) (w : World) (hlen : len ≤ 1048576) (h : Src w B len) :
    Calls Try.prog 57 #[.pointer (some ⟨B, 0, none⟩)] w (DTPost B len w) := by
  obtain ⟨iR, hiR, hzR0, hzR1, hzR2⟩ := info_parts info_rule
  have hB := h.lt
  have C0 := Lib.hid (cDrawGood B len w hlen h)
  clear h
  go_enter Try.func57, Try.ntmps57
  go_wp2_with fail
  refine C0.out.mono ?_
  rintro e w1 ⟨g, c, es, hl5, hl8, rfl, hD1, hsm, hS1, hg1⟩
  have C1 := Lib.hid (cNext B len 24 w1 hlen (by omega) (by omega) hS1)
  have HL8 := Lib.hid hl8
  have HL5 := Lib.hid hl5
  have HSM := Lib.hid hsm
  clear hS1 hl8 hl5 hsm C0
  go_wp2_with fail
  refine C1.out.mono ?_
  rintro e w2 ⟨r, hr0, hr1, rfl, hS2, g2⟩
  have HD2 := Lib.hid (hD1.next g2 hB)
  have HG2 := Lib.hid (hg1.trans g2)
  have HS2 := Lib.hid hS2
  have hp2 := HG2.out.size
  obtain ⟨hc1, hc2⟩ := HD2.out.caps
  have HC1 := Lib.hid hc1
  have HC2 := Lib.hid hc2
  clear hD1 hS2 hg1 g2 hr1 C1 hc1 hc2
  by_cases h0 : r = 0
  · have z2 : (r == 0) = true := by simp [h0]
    have C4 := Lib.hid (cDrawRule B len w2 hlen HS2.out)
    clear h0
    go_wp2_with fail
    refine C4.out.mono ?_
    rintro e w6 ⟨g1, k1, c1, xs, t, rfl, hk1, ht5, hxs, hown6, hS6, g6⟩
    have HG6 := Lib.hid (HG2.out.trans g6)
    have HD6 := Lib.hid (HD2.out.next g6 hB)
    have HS6 := Lib.hid hS6
    have Q6 := Lib.hid (rowBase hown6 hp2)
    have hlx : k1 = xs.length := by have h9 := hown6.1; rw [intV_len] at h9; omega
    have HK1 := Lib.hid hk1
    have HLX := Lib.hid hlx
    have hp6 := HG6.out.size
    clear hS6 g6 hown6 C4 HS2 HG2 HD2 hk1 hlx
    go_wp2_with (at_builtin; refine wpList_append_own _ rfl _ _ 24 rfl w.heap.size 35 iR _ 2 40 Try.underlying24 hiR hzR0 hzR1 hzR2 rfl (by decide) _ _ _ rfl (HD6.out.alloc _).row ⟨w6.heap.size, 0, none⟩ 1 1 [.slice (some ⟨g1, 0, none⟩) k1 c1, .string t] rfl rfl (rule_cells _ _ _ _) (rule_one _ _ _ _) ?c3 ?c4 ?c5 ?_)
    case c3 => have := HL8.out; unfold maxLen; omega
    case c4 => have := HL8.out; omega
    case c5 => simp; omega
    intro v' w7 hown7 hgrow7 _
    have hrow : ∀ x, Value.ownBlock _ = some x → w.heap.size ≤ x := fun x hx => (HD6.out.row.lt x hx).1
    have gA := World.grownBy_alloc w6 (.cells #[.slice (some ⟨g1, 0, none⟩) k1 c1, .string t] 35) (some B)
    have hq : (w6.alloc (.cells #[.slice (some ⟨g1, 0, none⟩) k1 c1, .string t] 35)).ownsRow w.heap.size 2 1 (.slice (some ⟨g1, 0, none⟩) xs.length c1) xs.length (intV xs) := by
      have h9 := Q6.out.alloc (.cells #[.slice (some ⟨g1, 0, none⟩) k1 c1, .string t] 35)
      rw [HLX.out] at h9 ⊢
      exact h9
    have hown8 : w7.ownsRow w.heap.size 35 2 v' (es.length + 1) (elsV es ++ elV (g1, c1, (xs, t))) := by
      have h9 := hown7
      rw [HLX.out] at h9
      exact h9
    have HD7 := Lib.hid ((HD6.out.alloc (.cells #[.slice (some ⟨g1, 0, none⟩) k1 c1, .string t] 35)).push (q := (g1, c1, (xs, t))) hq hown8 hgrow7)
    have HS7 := Lib.hid ((srcAlloc HS6.out (.cells #[.slice (some ⟨g1, 0, none⟩) k1 c1, .string t] 35)).growD hgrow7 (fun x hx => by have := hrow x hx; omega))
    have HG7 := Lib.hid (grown_after (HG6.out.trans gA) hgrow7 (fun x hx => hrow x hx))
    have HSM7 := Lib.hid (HSM.out.snoc (g1, c1, (xs, t)) (by have := HK1.out; have := HLX.out; show xs.length ≤ 4; omega) ht5)
    have hpos : 0 < (es ++ [(g1, c1, (xs, t))]).length := by simp
    obtain ⟨g7, c7, hv7⟩ := HD7.out.form hpos
    have hl7 : (es ++ [(g1, c1, (xs, t))]).length ≤ 31 := by have := HL8.out; simp; omega
    have HP := Lib.hid (DTPost.mk (w := w) hl7 (by rw [← hv7]; exact HD7.out) HSM7.out HS7.out HG7.out)
    rw [← hv7] at HP
    clear hown7 hown8 hq hgrow7 gA hrow HD7 HS7 HG7 HSM7 hv7 hl7 hpos
    go_wp2_with fail
    go_ret
    exact HP.out
  have z2 : (r == 0) = false := by rw [beq_eq_false_iff_ne]; exact h0
  by_cases h1 : r = 1
  · have z3 : (r == 1) = true := by simp [h1]
    have C4 := Lib.hid (cNext B len 5 w2 hlen (by omega) (by omega) HS2.out)
    clear h0 h1
    go_wp2_with fail
    refine C4.out.mono ?_
    rintro e w3 ⟨p, hp0, hp1, rfl, hS3, g3⟩
    obtain ⟨q, rfl⟩ : ∃ q : Nat, p = q := ⟨p.toNat, by omega⟩
    have hq4 : q ≤ 4 := by omega
    have HG3 := Lib.hid (HG2.out.trans g3)
    have HD3 := Lib.hid (HD2.out.next g3 hB)
    have HS3 := Lib.hid hS3
    have e1 : (0 : Int) ≤ (q : Int) := by omega
    have e2 : (q : Int) ≤ (es.length : Int) := by have := HL5.out; omega
    have e3 : es.length ≤ c := HC1.out
    clear hS3 g3 hp1 C4
    go_wp2_with fail
    all_goals first
      | (exfalso; have := HL5.out; omega)
      | (go_ret; exact ⟨g, c, q, es, by have := HL8.out; omega, hq4, by omega, HC1.out, HC2.out, rfl, HD3.out, HSM.out, HS3.out, HG3.out⟩)
  have z3 : (r == 1) = false := by rw [beq_eq_false_iff_ne]; exact h1
  by_cases h2 : r = 2
  · have z4 : (r == 2) = true := by simp [h2]
    clear h0 h1 h2
    go_wp2_with fail
    go_loopw [3, 4] (fun o i wr => ∃ (k : Nat) (es : List El) (v : Value), k ≤ 100 ∧ 5 ≤ es.length ∧ es.length ≤ 31 ∧ i = .int .i64 k ∧ v = o ∧ Hid (DTab wr w.heap.size v es) ∧ Hid (SmlR es) ∧ Hid (Src wr B len) ∧ Hid (w.grownBy wr (some B))) (fun _ i _ => 100 - (intOf i).toNat)
    case atStart => exact ⟨0, es, _, by omega, HL5.out, by have := HL8.out; omega, by go_num, rfl, HD2, HSM, HS2, HG2⟩
    case round =>
      clear HD2 HSM HS2 HG2 HL5 HL8 HC1 HC2
      obtain ⟨k, es, v, hk, he5, he31, rfl, rfl, HD, HSM, HS, HG⟩ := hrel
      obtain ⟨g0, c0, hv0⟩ := HD.out.form (by omega)
      obtain ⟨n, hn⟩ : ∃ n, n = es.length := ⟨_, rfl⟩
      have HN := Lib.hid hn
      rw [← hn] at hv0 he5 he31
      clear hn
      subst hv0
      have C4 := Lib.hid (cNext B len 2 wr hlen (by omega) (by omega) HS.out)
      go_wp2_with fail
      refine C4.out.mono ?_
      rintro e w3 ⟨p, hp0, hp1, rfl, hS3, g3⟩
      have HG3 := Lib.hid (HG.out.trans g3)
      have HD3 := Lib.hid (HD.out.next g3 hB)
      have HS3 := Lib.hid hS3
      have hp3 := HG3.out.size
      clear hS3 g3 C4 HD HG HS
      have hp2' : p ≤ 1 := by omega
      clear hp1
      by_cases hm : (n : Int) < 30 + p ∧ k < 100
      · have z5 : decide ((n : Int) < 30 + p) = true := decide_eq_true hm.1
        have z6 : decide ((k : Int) < 100) = true := decide_eq_true (by omega)
        have z6' : decide (k < 100) = true := decide_eq_true hm.2
        have QL := Lib.hid (World.ownsRow_lit (e := 2) (base := w.heap.size) (size := 1) w3 #[.int .i64 9, .int .i64 ((k : Int) % 20), .int .i64 ((k : Int) / 20)] 3 (by omega) (by decide) rfl)
        have gA := World.grownBy_alloc w3 (.cells #[.int .i64 9, .int .i64 ((k : Int) % 20), .int .i64 ((k : Int) / 20)] 2) (some B)
        have HG5 := Lib.hid (HG3.out.trans gA)
        have HD5 := Lib.hid (HD3.out.next gA hB)
        have HS5 := Lib.hid (srcAlloc HS3.out (.cells #[.int .i64 9, .int .i64 ((k : Int) % 20), .int .i64 ((k : Int) / 20)] 2))
        have hrowN := HD5.out.row
        rw [← HN.out] at hrowN
        have HR5 := Lib.hid hrowN
        clear gA hrowN
        go_wp2_with (at_builtin; refine wpList_append_own _ rfl _ _ 24 rfl w.heap.size 35 iR _ 2 40 Try.underlying24 hiR hzR0 hzR1 hzR2 rfl (by decide) _ _ _ rfl (HR5.out.alloc _) ⟨w3.heap.size + 1, 0, none⟩ 1 1 [.slice (some ⟨w3.heap.size, 0, none⟩) 3 3, .string ByteArray.empty] rfl rfl (by have h9 := rule_cells (w3.alloc (.cells #[.int .i64 9, .int .i64 ((k : Int) % 20), .int .i64 ((k : Int) / 20)] 2)) (.slice (some ⟨w3.heap.size, 0, none⟩) 3 3) (.string ByteArray.empty) 35; rw [World.size_alloc] at h9; exact h9) (rule_one _ _ _ _) ?c3 ?c4 ?c5 ?_)
        case c3 => unfold maxLen; omega
        case c4 => omega
        case c5 => simp; omega
        intro v' w7 hown7 hgrow7 _
        obtain ⟨W5, hW5⟩ : ∃ W5, W5 = w3.alloc (.cells #[.int .i64 9, .int .i64 ((k : Int) % 20), .int .i64 ((k : Int) / 20)] 2) := ⟨_, rfl⟩
        rw [← hW5] at HD5 HS5 HG5 HR5 QL hgrow7
        have hrow : ∀ x, Value.ownBlock _ = some x → w.heap.size ≤ x := fun x hx => (HD5.out.row.lt x hx).1
        have gB := World.grownBy_alloc W5 (.cells #[.slice (some ⟨w3.heap.size, 0, none⟩) 3 3, .string ByteArray.empty] 35) (some B)
        rw [HN.out] at hown7 hgrow7
        have HD7 := Lib.hid ((HD5.out.alloc (.cells #[.slice (some ⟨w3.heap.size, 0, none⟩) 3 3, .string ByteArray.empty] 35)).push (q := (w3.heap.size, 3, ([9, (k : Int) % 20, (k : Int) / 20], ByteArray.empty))) (QL.out.alloc _) hown7 hgrow7)
        have HS7 := Lib.hid ((srcAlloc HS5.out (.cells #[.slice (some ⟨w3.heap.size, 0, none⟩) 3 3, .string ByteArray.empty] 35)).growD hgrow7 (fun x hx => by have := hrow x (by rw [← HN.out] at hx; exact hx); omega))
        have HG7 := Lib.hid (grown_after (HG5.out.trans gB) hgrow7 (fun x hx => hrow x (by rw [← HN.out] at hx; exact hx)))
        have HSM7 := Lib.hid (HSM.out.snoc (w3.heap.size, 3, ([9, (k : Int) % 20, (k : Int) / 20], ByteArray.empty)) (by simp) (by show ByteArray.empty.size ≤ 5; decide))
        have HLN : Hid (5 ≤ (es ++ [((w3.heap.size, 3, ([9, (k : Int) % 20, (k : Int) / 20], ByteArray.empty)) : El)]).length ∧ (es ++ [((w3.heap.size, 3, ([9, (k : Int) % 20, (k : Int) / 20], ByteArray.empty)) : El)]).length ≤ 31) := Lib.hid (by rw [List.length_append, ← HN.out]; simp; omega)
        clear hown7 hgrow7 gB hrow hW5
        go_wp2_with fail
        go_roundw
        case rel => exact ⟨k + 1, es ++ [(w3.heap.size, 3, ([9, (k : Int) % 20, (k : Int) / 20], ByteArray.empty))], v', by omega, HLN.out.1, HLN.out.2, by go_num, rfl, HD7, HSM7, HS7, HG7⟩
        case measure => simp [intOf]; omega
      · have HP := Lib.hid (DTPost.mk (w := w) (by rw [← HN.out]; exact he31) (by rw [← HN.out]; exact (show DTab w3 w.heap.size (.slice (some ⟨g0, 0, none⟩) n c0) es from HD3.out)) HSM.out HS3.out HG3.out)
        rw [← HN.out] at HP
        by_cases hn3 : (n : Int) < 30 + p
        · have z5 : decide ((n : Int) < 30 + p) = true := decide_eq_true hn3
          have z6 : decide ((k : Int) < 100) = false := decide_eq_false (by omega)
          have z6' : decide (k < 100) = false := decide_eq_false (by omega)
          go_wp2_with fail
          go_ret
          exact HP.out
        · have z5 : decide ((n : Int) < 30 + p) = false := decide_eq_false hn3
          go_wp2_with fail
          go_ret
          exact HP.out
  have z4 : (r == 2) = false := by rw [beq_eq_false_iff_ne]; exact h2
  clear h0 h1 h2
  go_wp2_with fail
  go_ret
  exact DTPost.mk (by have := HL8.out; omega) HD2.out HSM.out HS2.out HG2.out
end Go.Proofs.Ytnfdbpfegmodcaa
