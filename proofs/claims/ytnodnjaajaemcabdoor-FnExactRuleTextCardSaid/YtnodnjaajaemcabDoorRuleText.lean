/-
  The contracts of spec.l04Text and of RuleText of both packages.
-/
import Derived.Test.YtnodnjaajaemcabDoorJoinN
import Derived.Test.YtnodnjaajaemcabDoorRuleTo
import Derived.Deep.RegionHeld3
namespace Go.Proofs.YtnodnjaajaemcabDoor
set_option linter.unusedVariables false
open Go.RowKit

def textR (r : Ru) : ByteArray := jB 43 (nums r.1) ++ ⟨#[61]⟩ ++ r.2
def rtV (r : Ru) : Value := if ruleB r then .tuple #[.string (textR r), .int .i64 0] else .tuple #[.string ByteArray.empty, .int .i64 1]
theorem ok_signs {m : Nat} {xs : List Int} (h : signsB m xs = true) : okAll xs = true := by
  unfold okAll; rw [List.all_eq_true]
  intro x hx
  have := signs_all h x hx
  unfold okN; simp; omega
theorem j_size2 {xs : List Int} (hok : okAll xs = true) (h : xs.length ≤ 3) : (jB 43 (nums xs)).size ≤ 3000000000009 := by
  have h1 := j_len 43 ((nums xs).map (·.data.toList)) (by
    intro y hy
    rw [List.mem_map] at hy
    obtain ⟨z, hz, rfl⟩ := hy
    unfold nums at hz
    rw [List.mem_map] at hz
    obtain ⟨v, hv, rfl⟩ := hz
    have h2 := numB_len v
    have h3 := size_list (numB v)
    have h4 := okAll_mem xs hok v hv
    omega)
  have h2 := size_list (jB 43 (nums xs))
  have h3 : (jB 43 (nums xs)).data.toList = jL 43 ((nums xs).map (·.data.toList)) := jB_data 43 _
  rw [← h2, h3]
  have h4 : ((nums xs).map (·.data.toList)).length = xs.length := by simp [nums]
  rw [h4] at h1
  omega

/-- Two cells, through a drawn region. -/
def OneP (A0 : World) (b : Nat) (u v : Value) (W : World) : Prop := W.cell? ⟨b, 0, none⟩ = some u ∧ W.cell? ⟨b, 1, none⟩ = some v ∧ b < W.heap.size ∧ Below A0.heap.size A0 W
theorem OneP.keep {A0 W W' : World} {b : Nat} {u v : Value} (h : OneP A0 b u v W) (hb : Below W.heap.size W W') : OneP A0 b u v W' :=
  ⟨(hb.cell (p := ⟨b, 0, none⟩) h.2.2.1).trans h.1, (hb.cell (p := ⟨b, 1, none⟩) h.2.2.1).trans h.2.1, Nat.lt_of_lt_of_le h.2.2.1 hb.size, h.2.2.2.trans (hb.mono h.2.2.2.size)⟩
theorem OneP.get {A0 W : World} {b : Nat} {u v : Value} (h : OneP A0 b u v W) : Below A0.heap.size A0 W := h.2.2.2

set_option maxHeartbeats 1000000 in
theorem cText (g n c : Nat) (r : Ru) (w : World) (hr : ruleB r = true) (h : NumAt w w.heap.size (some ⟨g, 0, none⟩) n r.1) :
    Calls Tryd.prog 27 #[.agg #[.slice (some ⟨g, 0, none⟩) n c, .string r.2]] w fun e w' => e = .returned (.string (textR r)) ∧ Below w.heap.size w w' := by
  have hs := rule_signs hr
  have hl := signs_len hs
  have hz := j_size2 (ok_signs hs) hl.2
  have h4 := rom_len (rule_rom hr)
  obtain ⟨b', o', e0, hg, hc⟩ := h.2 (by have := h.1; omega)
  cases e0
  have CJ := Lib.hid (fun (W : World) (hW : Below w.heap.size w W) => cJoinS 43 g c n r.1 W h.1 (by have := h.1; omega) (Nat.lt_of_lt_of_le hg hW.size) (ok_signs hs) (fun j x hx => (hW.cell (p := ⟨g, 0 + j, none⟩) hg).trans (hc j x hx)))
  obtain ⟨xs, s⟩ := r
  unfold textR
  simp only at *
  obtain ⟨J, hJ⟩ : ∃ J, J = jB 43 (nums xs) := ⟨_, rfl⟩
  rw [← hJ] at CJ hz ⊢
  have B0 := alloc_below w (.cells #[.slice (some ⟨g, 0, none⟩) n c, .string s] 34)
  have P0 := PairAt.new w (.slice (some ⟨g, 0, none⟩) n c) (.string s) 34
  have HB := Lib.hid B0
  obtain ⟨l0, a0, a1⟩ := P0
  have q1 : ¬ 9223372036854775807 < J.size + 1 := by omega
  have q2 : ¬ 9223372036854775807 < J.size + 1 + s.size := by omega
  clear h hs hl hc hJ hr B0
  go_enter Tryd.func27, Tryd.ntmps27
  go_wp2_with fail
  obtain ⟨W1, hW1⟩ : ∃ W1, W1 = w.alloc (.cells #[.slice (some ⟨g, 0, none⟩) n c, .string s] 34) := ⟨_, rfl⟩
  rw [← hW1] at a0 a1 l0 HB ⊢
  clear hW1
  go_region_held3 (fun W => W.cell? ⟨w.heap.size, 0, none⟩ = some (.slice (some ⟨g, 0, none⟩) n c) ∧ W.cell? ⟨w.heap.size, 1, none⟩ = some (.string s) ∧ w.heap.size < W.heap.size ∧ Below W1.heap.size W1 W)
    (first | (exact ⟨a0, a1, l0, (Below.refl _ _).drew⟩) | (exact OneP.keep (A0 := W1) (by assumption) hb) | assumption)
    ((go_at_call 43; refine (CJ.out _ (HB.out.trans ((OneP.get (A0 := W1) (show OneP W1 w.heap.size (.slice (some ⟨g, 0, none⟩) n c) (.string s) _ by assumption)).mono HB.out.size))).mono ?_; rintro e w1 ⟨rfl, hb⟩))
  all_goals
    have hq : Below W1.heap.size W1 w1 := OneP.get (show OneP W1 w.heap.size (.slice (some ⟨g, 0, none⟩) n c) (.string s) w1 by assumption)
    have B9 := HB.out.trans (hq.mono HB.out.size)
    go_wp2_with fail
    go_ret
    exact ⟨rfl, B9⟩

theorem cRT_bad_spec (A : Option Addr) (n c : Nat) (r : Ru) (w : World) (hbig : n ≤ maxLen) (hs : r.2.size ≤ maxLen) (hr : ruleB r = false) (h : NumAt w w.heap.size A n r.1) :
    Calls Tryd.prog 12 #[.agg #[.slice A n c, .string r.2]] w fun e w' => e = .returned (rtV r) ∧ Below w.heap.size w w' := by
  have B0 := alloc_below w (.cells #[.slice A n c, .string r.2] 34)
  have CI := Lib.hid (cIsRule_spec A n c w.heap.size r _ hbig hs (h.below B0 (Nat.le_refl _)) B0.size)
  rw [hr] at CI
  unfold rtV
  rw [hr]
  have HB := Lib.hid B0
  clear h hr B0
  go_enter Tryd.func12, Tryd.ntmps12
  go_wp2_with (go_at_call 26; refine CI.out.mono ?_; rintro e w1 ⟨rfl, hb1⟩)
  go_ret2
  exact ⟨rfl, HB.out.trans (hb1.mono HB.out.size)⟩
theorem cRT_bad_impl (A : Option Addr) (n c : Nat) (r : Ru) (w : World) (hbig : n ≤ maxLen) (hs : r.2.size ≤ maxLen) (hr : ruleB r = false) (h : NumAt w w.heap.size A n r.1) :
    Calls Tryd.prog 14 #[.agg #[.slice A n c, .string r.2]] w fun e w' => e = .returned (rtV r) ∧ Below w.heap.size w w' := by
  have B0 := alloc_below w (.cells #[.slice A n c, .string r.2] 34)
  have CI := Lib.hid (cIsRule_impl A n c w.heap.size r _ hbig hs (h.below B0 (Nat.le_refl _)) B0.size)
  rw [hr] at CI
  unfold rtV
  rw [hr]
  have HB := Lib.hid B0
  clear h hr B0
  go_enter Tryd.func14, Tryd.ntmps14
  go_wp2_with (go_at_call 29; refine CI.out.mono ?_; rintro e w1 ⟨rfl, hb1⟩)
  go_ret2
  exact ⟨rfl, HB.out.trans (hb1.mono HB.out.size)⟩

set_option maxHeartbeats 1000000 in
theorem cRT_spec (g n c : Nat) (r : Ru) (w : World) (hbig : n ≤ maxLen) (hs : r.2.size ≤ maxLen) (h : NumAt w w.heap.size (some ⟨g, 0, none⟩) n r.1) :
    Calls Tryd.prog 12 #[.agg #[.slice (some ⟨g, 0, none⟩) n c, .string r.2]] w fun e w' => e = .returned (rtV r) ∧ Below w.heap.size w w' := by
  cases hr : ruleB r
  · exact cRT_bad_spec _ n c r w hbig hs hr h
  · have B0 := alloc_below w (.cells #[.slice (some ⟨g, 0, none⟩) n c, .string r.2] 34)
    have CI := Lib.hid (cIsRule_spec _ n c w.heap.size r _ hbig hs (h.below B0 (Nat.le_refl _)) B0.size)
    have CT := Lib.hid (fun (W : World) (hW : Below w.heap.size w W) => cText g n c r W hr ((h.below hW (Nat.le_refl _)).more hW.size))
    rw [hr] at CI
    unfold rtV
    rw [hr]
    have HB := Lib.hid B0
    obtain ⟨l0, a0, a1⟩ := PairAt.new w (.slice (some ⟨g, 0, none⟩) n c) (.string r.2) 34
    have P0 := PairAt.new w (.slice (some ⟨g, 0, none⟩) n c) (.string r.2) 34
    clear h hr B0
    go_enter Tryd.func12, Tryd.ntmps12
    go_wp2_with fail
    refine CI.out.mono ?_
    rintro e w1 ⟨rfl, hb1⟩
    obtain ⟨l1, c0, c1⟩ := P0.below hb1
    have B1 := HB.out.trans (hb1.mono HB.out.size)
    clear P0 a0 a1 l0 hb1
    go_wp2_with fail
    refine (CT.out _ B1).mono ?_
    rintro e w2 ⟨rfl, hb2⟩
    go_wp2_with fail
    go_ret2
    exact ⟨rfl, B1.trans (hb2.mono B1.size)⟩

set_option maxHeartbeats 1000000 in
theorem cRT_impl (g n c : Nat) (r : Ru) (w : World) (hbig : n ≤ maxLen) (hs : r.2.size ≤ maxLen) (h : NumAt w w.heap.size (some ⟨g, 0, none⟩) n r.1) (hgl : 1 < w.heap.size) (htab : Lib.TabIs Tryd.prog w "internal/strconv.uint64pow10" .u64 Lib.pow10Tab) :
    Calls Tryd.prog 14 #[.agg #[.slice (some ⟨g, 0, none⟩) n c, .string r.2]] w fun e w' => e = .returned (rtV r) ∧ Below w.heap.size w w' := by
  cases hr : ruleB r
  · exact cRT_bad_impl _ n c r w hbig hs hr h
  · have B0 := alloc_below w (.cells #[.slice (some ⟨g, 0, none⟩) n c, .string r.2] 34)
    have CI := Lib.hid (cIsRule_impl _ n c w.heap.size r _ hbig hs (h.below B0 (Nat.le_refl _)) B0.size)
    have hsg := rule_signs hr
    have hl := signs_len hsg
    have hz := j_size2 (ok_signs hsg) hl.2
    have h4 := rom_len (rule_rom hr)
    obtain ⟨b', o', e0, hg, hc⟩ := h.2 (by have := h.1; omega)
    cases e0
    have CJ := Lib.hid (fun (W : World) (hW : Below w.heap.size w W) => cJoinN 43 g c n r.1 W h.1 (by have := h.1; omega) (by have := h.1; omega) (ok_signs hsg) (Nat.lt_of_lt_of_le hg hW.size) (Nat.lt_of_lt_of_le hgl hW.size) (fun j x hx => (hW.cell (p := ⟨g, 0 + j, none⟩) hg).trans (hc j x hx)) (tab_below hW pow_named hgl htab))
    have e1 : sepB 43 = ⟨#[43]⟩ := rfl
    rw [hr] at CI
    unfold rtV
    rw [hr]
    obtain ⟨xs, s⟩ := r
    unfold textR
    simp only at *
    obtain ⟨J, hJ⟩ : ∃ J, J = jB 43 (nums xs) := ⟨_, rfl⟩
    rw [← hJ] at CJ hz ⊢
    rw [e1] at CJ
    have HB := Lib.hid B0
    have P0 := PairAt.new w (.slice (some ⟨g, 0, none⟩) n c) (.string s) 34
    have q1 : ¬ 9223372036854775807 < J.size + 1 := by omega
    have q2 : ¬ 9223372036854775807 < J.size + 1 + s.size := by omega
    clear h hsg hl hc hJ hr B0 htab hgl e1
    go_enter Tryd.func14, Tryd.ntmps14
    go_wp2_with fail
    refine CI.out.mono ?_
    rintro e W1 ⟨rfl, hb1⟩
    obtain ⟨l1, c0, c1⟩ := P0.below hb1
    have B1 := Lib.hid (HB.out.trans (hb1.mono HB.out.size))
    clear P0 hb1 CI
    go_wp2_with fail
    go_region_held3 (fun W => W.cell? ⟨w.heap.size, 0, none⟩ = some (.slice (some ⟨g, 0, none⟩) n c) ∧ W.cell? ⟨w.heap.size, 1, none⟩ = some (.string s) ∧ w.heap.size < W.heap.size ∧ Below W1.heap.size W1 W)
      (first | (exact ⟨c0, c1, l1, (Below.refl _ _).drew⟩) | (exact OneP.keep (A0 := W1) (by assumption) hb) | assumption)
      ((go_at_call 30; refine (CJ.out _ (B1.out.trans ((OneP.get (A0 := W1) (show OneP W1 w.heap.size (.slice (some ⟨g, 0, none⟩) n c) (.string s) _ by assumption)).mono B1.out.size))).mono ?_; rintro e w1 ⟨rfl, hb⟩))
    all_goals
      have hq : Below W1.heap.size W1 w1 := OneP.get (show OneP W1 w.heap.size (.slice (some ⟨g, 0, none⟩) n c) (.string s) w1 by assumption)
      have B9 := B1.out.trans (hq.mono B1.out.size)
      go_wp2_with fail
      go_ret2
      exact ⟨rfl, B9⟩
end Go.Proofs.YtnodnjaajaemcabDoor
