/-
  The contract of spec.DrawReadRule.
-/
import Derived.Test.YtnfdbpfegmodcaaDoorDrawRT
import Derived.Test.YtnfdbpfegmodcaaDoorDamage
namespace Go.Proofs.YtnfdbpfegmodcaaDoor
set_option linter.unusedVariables false
open Go.RowKit

theorem j_hun (sp : UInt8) : ∀ (l : List (List UInt8)), (∀ y ∈ l, y.length ≤ 100) → (jL sp l).length ≤ l.length * 101
  | [], _ => by simp [jL, Lib.join, List.intercalate, List.intersperse]
  | [a], h => by rw [jL_one sp]; have := h a (by simp); simp; omega
  | a :: b :: l, h => by
    rw [jL_cons sp, List.length_append, List.length_cons]
    have h1 := h a (by simp)
    have h2 := j_hun sp (b :: l) (fun y hy => h y (List.mem_cons_of_mem _ hy))
    simp only [List.length_cons] at h2 ⊢
    omega
theorem text_size {r : Ru} (h : ruleB r = true) : (textR r).size ≤ 1000 := by
  have hl := signs_len (rule_signs h)
  have h4 := rom_len (rule_rom h)
  have h1 := j_hun 43 ((nums r.1).map (·.data.toList)) (by
    intro y hy
    rw [List.mem_map] at hy
    obtain ⟨z, hz, rfl⟩ := hy
    unfold nums at hz
    rw [List.mem_map] at hz
    obtain ⟨v, hv, rfl⟩ := hz
    have h2 := numB_len v
    have h3 := size_list (numB v)
    have h5 := signs_all (rule_signs h) v hv
    omega)
  have h2 := size_list (jB 43 (nums r.1))
  have h3 : (jB 43 (nums r.1)).data.toList = jL 43 ((nums r.1).map (·.data.toList)) := jB_data 43 _
  rw [h3] at h2
  have h5 : ((nums r.1).map (·.data.toList)).length = r.1.length := by simp [nums]
  rw [h5] at h1
  have h6 : (textR r).size = (jB 43 (nums r.1)).size + 1 + r.2.size := by
    unfold textR
    rw [ByteArray.size_append, ByteArray.size_append]; rfl
  have h7 : r.1.length * 101 ≤ 3 * 101 := Nat.mul_le_mul_right _ hl.2
  omega

/-- A drawn text comes back. -/
def TextP (w : World) (e : Ending) (w' : World) : Prop := ∃ u : ByteArray, u.size ≤ 100000 ∧ e = .returned (.string u) ∧ Below w.heap.size w w'
set_option maxHeartbeats 2000000 in
set_option maxRecDepth 100000 in
theorem cDrawReadRule (A : Option Addr) (len cap : Nat) (w : World) (hlen : len ≤ 1048576) (h : CodeIn w A len) :
    Calls Tryd.prog 8 #[.slice A len cap] w (TextP w) := by
  have C0 := Lib.hid (cFrom A len cap w hlen h)
  clear h
  go_enter Tryd.func8, Tryd.ntmps8
  go_wp2_with fail
  refine C0.out.mono ?_
  rintro e w1 ⟨rfl, S1, b1⟩
  have C1 := Lib.hid (cDrawRule w.heap.size len w1 hlen S1)
  have HB1 := Lib.hid b1
  clear S1 b1 C0
  go_wp2_with fail
  refine C1.out.mono ?_
  rintro e w2 ⟨g, k, c, xs, t, rfl, hk, ht, hx, own, S2, g2⟩
  have HB2 : Hid (Below w.heap.size w w2) := Lib.hid (HB1.out.grown g2 HB1.out.size (fun z hz => by cases hz; exact Nat.le_refl _))
  have hgl := (own.lt g rfl)
  have N2 := numAt_own own
  have K3 := PairAt.new w2 (.slice (some ⟨g, 0, none⟩) k c) (.string t) 26
  have B3 := alloc_below w2 (.cells #[.slice (some ⟨g, 0, none⟩) k c, .string t] 26)
  have S3 := Lib.hid (srcAlloc S2 (.cells #[.slice (some ⟨g, 0, none⟩) k c, .string t] 26))
  have HB3 : Hid (Below w.heap.size w (w2.alloc (.cells #[.slice (some ⟨g, 0, none⟩) k c, .string t] 26))) := Lib.hid (HB2.out.trans (B3.mono HB2.out.size))
  have N3 := (N2.below B3 (Nat.le_refl _)).more B3.size
  have CI := Lib.hid (cIsRule_spec (some ⟨g, 0, none⟩) k c _ (xs, t) _ (by unfold maxLen; omega) (by unfold maxLen; simp only; omega) N3 (Nat.le_refl _))
  have HN3 := Lib.hid N3
  have HK3 := Lib.hid K3
  obtain ⟨l0, a0, a1⟩ := K3
  clear S2 g2 own N2 B3 N3 C1 hx
  cases hr : ruleB (xs, t)
  · rw [hr] at CI
    clear hr
    go_wp2_with fail
    refine CI.out.mono ?_
    rintro e w4 ⟨rfl, b4⟩
    have HB4 := Lib.hid (HB3.out.trans (b4.mono HB3.out.size))
    have S4 := S3.out.below b4
    have C4 := Lib.hid (cNext w.heap.size len 3 w4 hlen (by omega) (by omega) S4)
    clear S4 b4 CI
    go_wp2_with fail
    refine C4.out.mono ?_
    rintro e w5 ⟨p, hp0, hp1, rfl, S5, g5⟩
    have HB5 : Hid (Below w.heap.size w w5) := Lib.hid (HB4.out.grown g5 HB4.out.size (fun z hz => by cases hz; exact Nat.le_refl _))
    have C5 := Lib.hid (cDamage w.heap.size len ⟨#[48, 43, 49, 61, 97, 98]⟩ w5 hlen (by decide) S5)
    clear S5 g5 hp1 C4
    by_cases hd : p = 0
    · have z2 : (p == 0) = true := by simp [hd]
      clear hd
      go_wp2_with fail
      refine C5.out.mono ?_
      rintro e w6 ⟨u, hu, rfl, _, g6⟩
      have hb6 : Below w.heap.size w w6 := HB5.out.grown g6 HB5.out.size (fun z hz => by cases hz; exact Nat.le_refl _)
      have hu2 : u.size ≤ 100000 := by
        have : (⟨#[48, 43, 49, 61, 97, 98]⟩ : ByteArray).size = 6 := rfl
        omega
      go_wp2_with fail
      go_ret
      exact ⟨u, hu2, rfl, hb6⟩
    · have z2 : (p == 0) = false := by rw [beq_eq_false_iff_ne]; exact hd
      clear hd
      go_wp2_with fail
      go_ret
      exact ⟨_, by decide, rfl, HB5.out⟩
  · rw [hr] at CI
    have hts := text_size hr
    have CT := Lib.hid (fun (W : World) (hW : Below (w2.alloc (.cells #[.slice (some ⟨g, 0, none⟩) k c, .string t] 26)).heap.size (w2.alloc (.cells #[.slice (some ⟨g, 0, none⟩) k c, .string t] 26)) W) => cText g k c (xs, t) W hr ((HN3.out.below hW (Nat.le_refl _)).more hW.size))
    obtain ⟨tt, htt⟩ : ∃ tt, tt = textR (xs, t) := ⟨_, rfl⟩
    rw [← htt] at CT hts
    clear hr htt
    go_wp2_with fail
    refine CI.out.mono ?_
    rintro e w4 ⟨rfl, b4⟩
    have CT4 := Lib.hid (CT.out w4 b4)
    have HB4 := Lib.hid (HB3.out.trans (b4.mono HB3.out.size))
    have S4 := Lib.hid (S3.out.below b4)
    obtain ⟨l4, d0, d1⟩ := HK3.out.below b4
    clear b4 CI CT a0 a1
    go_wp2_with fail
    refine CT4.out.mono ?_
    rintro e w5 ⟨rfl, b5⟩
    have HB5 := Lib.hid (HB4.out.trans (b5.mono HB4.out.size))
    have C5 := Lib.hid (cNext w.heap.size len 3 w5 hlen (by omega) (by omega) (S4.out.below b5))
    clear b5 CT4 d0 d1
    go_wp2_with fail
    refine C5.out.mono ?_
    rintro e w6 ⟨p, hp0, hp1, rfl, S6, g6⟩
    have HB6 : Hid (Below w.heap.size w w6) := Lib.hid (HB5.out.grown g6 HB5.out.size (fun z hz => by cases hz; exact Nat.le_refl _))
    have C6 := Lib.hid (cDamage w.heap.size len tt w6 hlen (by omega) S6)
    clear S6 g6 hp1 C5
    by_cases hd : p = 0
    · have z2 : (p == 0) = true := by simp [hd]
      clear hd
      go_wp2_with fail
      refine C6.out.mono ?_
      rintro e w7 ⟨u, hu, rfl, _, g7⟩
      have hb7 : Below w.heap.size w w7 := HB6.out.grown g7 HB6.out.size (fun z hz => by cases hz; exact Nat.le_refl _)
      have hu2 : u.size ≤ 100000 := by omega
      go_wp2_with fail
      go_ret
      exact ⟨u, hu2, rfl, hb7⟩
    · have z2 : (p == 0) = false := by rw [beq_eq_false_iff_ne]; exact hd
      clear hd
      go_wp2_with fail
      go_ret
      exact ⟨_, by omega, rfl, HB6.out⟩
end Go.Proofs.YtnfdbpfegmodcaaDoor
