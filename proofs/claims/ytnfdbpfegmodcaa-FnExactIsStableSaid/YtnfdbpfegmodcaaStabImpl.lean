/-
  The contract of impl.IsStable.
-/
import Derived.Test.YtnfdbpfegmodcaaStab
namespace Go.Proofs.Ytnfdbpfegmodcaa
set_option linter.unusedVariables false
open Go.RowKit

theorem RulesAt.of_box {w : World} {A : Option Addr} {n : Nat} {rs : List Ru} (h : RulesAt w w.heap.size A n rs) (o : Obj) : RulesAt (w.alloc o) (w.alloc o).heap.size A n rs := h.grow (alloc_below w o)
theorem used_code {rs : List Ru} {zs : List Int} (ht : tableB rs = true) (hne : anyE rs zs = false) :
    (codeU rs (catS rs zs) = 0 → stbB rs zs = decide (zsU rs (catS rs zs) = zs)) ∧ (codeU rs (catS rs zs) ≠ 0 → stbB rs zs = false) := by
  cases hs : signsB 12 (catS rs zs)
  · have h1 : codeU rs (catS rs zs) = 1 := by unfold codeU okU; rw [ht, hs]; rfl
    rw [h1]
    exact ⟨fun h => by omega, fun _ => stb_len hs⟩
  · cases hu : usedF (placeK (keys rs)) (catS rs zs) with
    | none =>
      have h1 : codeU rs (catS rs zs) = 4 := by unfold codeU okU; rw [ht, hs, hu]; rfl
      rw [h1]
      exact ⟨fun h => by omega, fun _ => stb_none hu⟩
    | some l =>
      have h1 : codeU rs (catS rs zs) = 0 := by unfold codeU okU; rw [ht, hs, hu]; rfl
      have h2 : zsU rs (catS rs zs) = l := by unfold zsU okU; rw [ht, hs, hu]; rfl
      rw [h1, h2]
      exact ⟨fun _ => stb_some hne hs hu, fun h => absurd rfl h⟩

set_option maxHeartbeats 2000000 in
set_option maxRecDepth 100000 in
theorem cStab_impl (A A' : Option Addr) (n n' c c' : Nat) (rs : List Ru) (zs : List Int) (w : World) (hb : n ≤ 1048576) (hb' : n' ≤ 1048576) (h : RulesAt w w.heap.size A n rs) (h' : NumAt w w.heap.size A' n' zs) :
    Calls Try.prog 51 #[.slice A n c, .slice A' n' c'] w fun e w' => e = .returned (.tuple #[.bool (stB rs zs), .int .i64 (sgnE rs zs)]) ∧ Below w.heap.size w w' := by
  have B0 := alloc_below w (.cells #[.slice A n c] 24)
  have P0 : (w.alloc (.cells #[.slice A n c] 24)).cell? ⟨w.heap.size, 0, none⟩ = some (.slice A n c) := new_one w _ _
  have L0 : w.heap.size < (w.alloc (.cells #[.slice A n c] 24)).heap.size := by simp
  have C := Lib.hid (cSgn_impl A A' n n' c c' rs zs (w.alloc (.cells #[.slice A n c] 24)) (by unfold maxLen; omega) (by unfold maxLen; omega) (h.grow B0) ((h'.below B0 (Nat.le_refl _)).more B0.size))
  have H := Lib.hid h
  have H' := Lib.hid h'
  have HB0 := Lib.hid B0
  clear h h' B0
  obtain ⟨code, hco⟩ : ∃ code, code = sgnE rs zs := ⟨_, rfl⟩
  rw [← hco] at C ⊢
  by_cases h0 : code = 0
  · subst h0
    obtain ⟨ht, hi, hz⟩ := sgn_zero hco.symm
    have HE := Lib.hid (stB_yes hco.symm)
    rw [hz] at C
    have HT := Lib.hid ht
    have HI := Lib.hid hi
    have hcl := catS_len ht zs
    have hzl := idx_len hi
    have HN' := Lib.hid H'.out.1
    clear hco ht hi hz
    go_enter Try.func51, Try.ntmps51
    go_wp2_with fail
    refine C.out.mono ?_
    rintro e w1 ⟨A1, n1, c1, rfl, hown, hb1⟩
    have P1 := (hb1.cell (p := ⟨w.heap.size, 0, none⟩) L0).trans P0
    have hB1 := HB0.out.trans (hb1.mono HB0.out.size)
    have hr := row_room hown
    have hnum := RowI.num (RowI.of hown)
    have hn1 := hnum.1
    have CE := Lib.hid (cContE A A' n n' c c' w.heap.size rs zs w1 (by unfold maxLen; omega) (by unfold maxLen; omega) (by rw [H.out.1]; exact HI.out) (H.out.grow hB1) ((H'.out.below hB1 (Nat.le_refl _)).more hB1.size) P1)
    have HB1 := Lib.hid hB1
    have CU := Lib.hid (cUsed_impl A A1 n n1 c c1 rs (catS rs zs) w1 (by unfold maxLen; omega) (by omega) hr.1 hr.2 (H.out.grow hB1) hnum)
    clear hown hb1 hB1 hr hnum hn1
    cases ha : anyE rs zs
    · rw [ha] at CE
      obtain ⟨u1, u2⟩ := used_code HT.out ha
      obtain ⟨us, hus⟩ : ∃ us, us = zsU rs (catS rs zs) := ⟨_, rfl⟩
      obtain ⟨co, hcoo⟩ : ∃ co, co = codeU rs (catS rs zs) := ⟨_, rfl⟩
      have husl := zsU_len rs (catS rs zs)
      rw [← hus] at CU u1 husl
      rw [← hcoo] at CU u1 u2
      by_cases hc0 : co = 0
      · have HX := Lib.hid (u1 hc0)
        have hd : (co == 0) = true := by simpa using hc0
        have HUL : Hid (us.length ≤ 144) := Lib.hid (by omega)
        clear u1 u2 hus hcoo husl ha hcl hzl
        go_wp2_with (first
          | (go_at_call 100; refine CE.out.mono ?_; rintro e w2 ⟨rfl, rfl⟩)
          | (go_at_call 17; refine CU.out.mono ?_; rintro e w3 ⟨A3, n3, c3, rfl, hown3, hb3⟩; have hnum3 := RowI.num (RowI.of hown3); have CQ := Lib.hid (cEqualI A3 A' n3 n' c3 c' w3.heap.size w.heap.size us zs w3 (by have := hnum3.1; have := HUL.out; unfold maxLen; omega) (by unfold maxLen; omega) hnum3 (H'.out.below (HB1.out.trans (hb3.mono HB1.out.size)) (Nat.le_refl _))); clear hown3 hnum3)
          | (go_at_call 102; refine CQ.out.mono ?_; rintro e w4 ⟨rfl, m, rfl⟩))
        go_ret2
        exact ⟨by rw [HE.out, HX.out]; rfl, below_drewR (HB1.out.trans (hb3.mono HB1.out.size)) m⟩
      · have HX := Lib.hid (u2 hc0)
        have hd : (co == 0) = false := by simpa using hc0
        clear u1 u2 hus hcoo husl ha hcl hzl
        go_wp2_with (first
          | (go_at_call 100; refine CE.out.mono ?_; rintro e w2 ⟨rfl, rfl⟩)
          | (go_at_call 17; refine CU.out.mono ?_; rintro e w3 ⟨A3, n3, c3, rfl, hown3, hb3⟩; clear hown3))
        go_ret2
        exact ⟨by rw [HE.out, HX.out]; rfl, HB1.out.trans (hb3.mono HB1.out.size)⟩
    · rw [ha] at CE
      have HX := Lib.hid (stb_empty ha)
      clear ha hcl hzl CU
      go_wp2_with (go_at_call 100; refine CE.out.mono ?_; rintro e w2 ⟨rfl, rfl⟩)
      go_ret2
      exact ⟨by rw [HE.out, HX.out]; rfl, HB1.out⟩
  · have HE := Lib.hid (stB_no (by rw [← hco]; exact h0))
    have hd : (code != 0) = true := by simpa using h0
    rw [HE.out]
    clear hco
    go_enter Try.func51, Try.ntmps51
    go_wp2_with (go_at_call 49; refine C.out.mono ?_; rintro e w1 ⟨A1, n1, c1, rfl, hown, hb1⟩)
    go_ret2
    exact ⟨rfl, HB0.out.trans (hb1.mono HB0.out.size)⟩
end Go.Proofs.Ytnfdbpfegmodcaa
