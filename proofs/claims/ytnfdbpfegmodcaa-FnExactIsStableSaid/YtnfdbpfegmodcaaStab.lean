/-
  The contracts of impl.IsStable and spec.IsStable (spec.l05Stable).
-/
import Derived.Test.YtnfdbpfegmodcaaStabI
import Derived.Test.YtnfdbpfegmodcaaRowLaw
namespace Go.Proofs.Ytnfdbpfegmodcaa
set_option linter.unusedVariables false
open Go.RowKit

theorem catS_good {rs : List Ru} (h : tableB rs = true) : ∀ zs : List Int, allS (catS rs zs) = true
  | [] => rfl
  | z :: zs => by
    have h1 : allS (signsAt rs z) = true := by
      unfold signsAt
      cases hr : rs[z.toNat]? with
      | none => rfl
      | some r =>
        have := rule_signs (goodT_mem (table_good h) (List.mem_of_getElem? hr))
        unfold signsB at this; rw [Bool.and_eq_true] at this; exact this.1
    have h2 := catS_good h zs
    unfold allS catS at *
    rw [List.flatMap_cons, List.all_append, h1, h2]; rfl
/-- Whether rules with a table's indices are a stable parsing. -/
def stbB (rs : List Ru) (zs : List Int) : Bool := !anyE rs zs && (signsB 12 (catS rs zs) && decide (usedF (placeK (keys rs)) (catS rs zs) = some zs))
def stB (rs : List Ru) (zs : List Int) : Bool := decide (sgnE rs zs = 0) && stbB rs zs
theorem stB_no {rs : List Ru} {zs : List Int} (h : sgnE rs zs ≠ 0) : stB rs zs = false := by unfold stB; rw [decide_eq_false h]; rfl
theorem stB_yes {rs : List Ru} {zs : List Int} (h : sgnE rs zs = 0) : stB rs zs = stbB rs zs := by unfold stB; rw [decide_eq_true h, Bool.true_and]
theorem sgn_zero {rs : List Ru} {zs : List Int} (h : sgnE rs zs = 0) : tableB rs = true ∧ idxB rs.length zs = true ∧ sgnZ rs zs = catS rs zs := by
  cases h1 : tableB rs
  · rw [(sgn_bad h1).1] at h; omega
  · cases h2 : idxB rs.length zs
    · rw [(sgn_range h1 h2).1] at h; omega
    · exact ⟨rfl, rfl, (sgn_ok h1 h2).2⟩
theorem stb_empty {rs : List Ru} {zs : List Int} (h : anyE rs zs = true) : stbB rs zs = false := by unfold stbB; rw [h]; rfl
theorem stb_len {rs : List Ru} {zs : List Int} (h : signsB 12 (catS rs zs) = false) : stbB rs zs = false := by unfold stbB; rw [h, Bool.false_and, Bool.and_false]
theorem stb_used {rs : List Ru} {zs : List Int} (h : anyE rs zs = false) (h2 : signsB 12 (catS rs zs) = true) : stbB rs zs = decide (usedF (placeK (keys rs)) (catS rs zs) = some zs) := by
  unfold stbB; rw [h, h2]; simp
theorem stb_none {rs : List Ru} {zs : List Int} (h : usedF (placeK (keys rs)) (catS rs zs) = none) : stbB rs zs = false := by unfold stbB; rw [h]; simp
theorem stb_some {rs : List Ru} {zs l : List Int} (h : anyE rs zs = false) (h2 : signsB 12 (catS rs zs) = true) (h3 : usedF (placeK (keys rs)) (catS rs zs) = some l) : stbB rs zs = decide (l = zs) := by
  rw [stb_used h h2, h3]; simp
/-- A row of numbers as a list of any slice, with its room. -/
theorem row_room {w : World} {B n c : Nat} {A : Option Addr} {t : TypeId} {s : Nat} {xs : List Value} (h : w.ownsRow B t s (.slice A n c) n xs) : n ≤ c ∧ c ≤ maxLen := by
  rcases h.2 with ⟨e, h0⟩ | ⟨g, cap, cur, e, _, _, h1, h2, _⟩
  · cases e; exact ⟨Nat.le_refl _, by unfold maxLen; omega⟩
  · cases e; exact ⟨h1, h2⟩

set_option maxHeartbeats 1000000 in
theorem cUsedS_nil (A A' : Option Addr) (n c c' : Nat) (rs : List Ru) (w : World) :
    Calls Try.prog 65 #[.slice A n c, .slice A' 0 c'] w (UsedPost (some []) w) := by
  go_enter Try.func65, Try.ntmps65
  go_wp2
  refine wp_loop_rounds 1 ?_
  rw [rounds_succ]
  go_wp2
  go_ret2
  exact .inr ⟨[], _, rfl, rfl, World.ownsRow_lit (e := 2) (base := w.heap.size) (size := 1) w #[] 0 (Nat.le_refl _) (by decide) rfl, (Below.refl _ _).alloc (Nat.le_refl _) _⟩
theorem cUsedS_any (A A' : Option Addr) (n c n' c' : Nat) (rs : List Ru) (xs : List Int) (w : World) (hb : n ≤ 1048576) (hb' : n' ≤ 1048576) (hc : n' ≤ c') (hcm : c' ≤ maxLen) (h : RulesAt w w.heap.size A n rs) (h' : NumAt w w.heap.size A' n' xs) :
    Calls Try.prog 65 #[.slice A n c, .slice A' n' c'] w (UsedPost (usedF (placeK (keys rs)) xs) w) := by
  rcases Nat.eq_zero_or_pos n' with rfl | hp
  · have : xs = [] := List.length_eq_zero_iff.1 h'.1.symm
    subst this
    rw [usedF_nil]
    exact cUsedS_nil A A' n c c' rs w
  · obtain ⟨b, o, rfl, _⟩ := h'.2 hp
    exact cUsedS A n c b o n' c' rs xs w hb hb' hc hcm h h'

set_option maxHeartbeats 2000000 in
set_option maxRecDepth 100000 in
theorem cStable (A A' A2 : Option Addr) (n n' n2 c c' c2 : Nat) (rs : List Ru) (zs : List Int) (w : World) (hb : n ≤ 1048576) (ht : tableB rs = true) (hi : idxB rs.length zs = true) (hc : n2 ≤ c2) (hcm : c2 ≤ maxLen)
    (h : RulesAt w w.heap.size A n rs) (h' : NumAt w w.heap.size A' n' zs) (h2 : NumAt w w.heap.size A2 n2 (catS rs zs)) :
    Calls Try.prog 99 #[.slice A n c, .slice A' n' c', .slice A2 n2 c2] w fun e w' => e = .returned (.bool (stbB rs zs)) ∧ Below w.heap.size w w' := by
  have hz := idx_len hi
  have hcl := catS_len ht zs
  have h2l := h2.1
  have hn2 : n2 ≤ 144 := by omega
  have hn' : n' ≤ 48 := by have := h'.1; omega
  have CU := Lib.hid (cUsedS_any A A2 n c n2 c2 rs (catS rs zs) w hb (by omega) hc hcm h h2)
  have HL := Lib.hid h.1
  have HL' := Lib.hid h'.1
  have H := Lib.hid h
  have H' := Lib.hid h'
  have HI := Lib.hid hi
  have HSUM := Lib.hid (signs_sum 12 (catS rs zs) (catS_good ht zs))
  have H2L := Lib.hid h2l
  clear h h' h2 hi ht hz hcl h2l
  go_enter Try.func99, Try.ntmps99
  go_wp2
  go_loop [7] (fun i => ∃ k : Nat, k ≤ n' ∧ i = .int .i64 k ∧ Hid (anyE rs (zs.take k) = false)) (fun i => n' - (intOf i).toNat)
  case atStart => exact ⟨0, Nat.zero_le _, rfl, Lib.hid rfl⟩
  case round =>
    obtain ⟨k, hk, rfl, HA⟩ := hrel
    by_cases hlt : k < n'
    · obtain ⟨i, hi⟩ : ∃ i, zs[k]? = some i := ⟨zs[k]'(by have := HL'.out; omega), List.getElem?_eq_getElem _⟩
      obtain ⟨b', o', rfl, hb', hci⟩ := H'.out.row hi
      obtain ⟨q, rfl, hq⟩ := idx_mem HI.out (List.mem_of_getElem? hi)
      obtain ⟨r, hr⟩ : ∃ r, rs[q]? = some r := ⟨rs[q]'hq, List.getElem?_eq_getElem _⟩
      obtain ⟨b, o, rfl, hbl, A1, n1, c1, k0, k1, k2, k3, k4⟩ := H.out.row hr
      have hd : (r.2.toList == ([] : List UInt8)) = emptyAt rs (q : Int) := by rw [toList_empty]; unfold emptyAt; rw [romAt_at hr]
      have HX := Lib.hid hi
      have q0 : (0 : Int) ≤ (q : Int) := by omega
      have q1 : (q : Int) < (n : Int) := by have := HL.out; omega
      have e0 : (0 : Int) ≤ (k : Int) := by omega
      have e1 : (k : Int) < (n' : Int) := by omega
      clear hi hr k2 k3 k4 k0
      cases hv : emptyAt rs (q : Int)
      · rw [hv] at hd
        have HA2 := Lib.hid (anyE_step HX.out HA.out hv)
        clear hv
        go_wp2
        go_round
        case rel => exact ⟨k + 1, by omega, by go_num, HA2⟩
        case measure => simp [intOf]; omega
      · rw [hv] at hd
        have HA2 := Lib.hid (stb_empty (anyE_stop HX.out hv))
        clear hv
        go_wp2
        go_ret
        exact ⟨ret_bool HA2.out.symm, Below.refl _ _⟩
    · have hne : anyE rs zs = false := by rw [← anyE_all (k := k) (by have := HL'.out; omega)]; exact HA.out
      have HNE := Lib.hid hne
      clear hne
      go_wp2_with fail
      refine CU.out.mono ?_
      rintro e w1 hU
      cases hu : usedF (placeK (keys rs)) (catS rs zs) with
      | none =>
        rw [hu] at hU
        obtain ⟨rfl, hb1⟩ := hU.no
        have HX := Lib.hid (stb_none hu)
        clear hu hU
        cases hd : (decide ((1 : Int) ≤ (n2 : Int)) && decide ((n2 : Int) ≤ 12))
        all_goals
          go_wp2_with (go_at_call 132; refine (cIn_any _ _ _ _).mono ?_; rintro e w' ⟨rfl, rfl⟩)
          go_ret
          exact ⟨ret_bool HX.out.symm, hb1⟩
      | some l =>
        rw [hu] at hU
        obtain ⟨Al, cl, rfl, hown, hb1⟩ := hU.yes
        cases hs : signsB 12 (catS rs zs)
        · have HX := Lib.hid (stb_len hs)
          have hd : (decide ((1 : Int) ≤ (n2 : Int)) && decide ((n2 : Int) ≤ 12)) = false := by rw [H2L.out]; exact HSUM.out.symm.trans hs
          clear hs hu hU
          go_wp2_with (go_at_call 132; refine (cIn_any _ _ _ _).mono ?_; rintro e w' ⟨rfl, rfl⟩)
          go_ret
          exact ⟨ret_bool HX.out.symm, hb1⟩
        · have HX := Lib.hid (stb_some HNE.out hs hu)
          have hd : (decide ((1 : Int) ≤ (n2 : Int)) && decide ((n2 : Int) ≤ 12)) = true := by rw [H2L.out]; exact HSUM.out.symm.trans hs
          have hll := (usedF_mem (P := fun _ => True) (fun _ _ _ => trivial) _ _ (Nat.le_refl _) l hu).1
          have CS := Lib.hid (cSame Al A' l.length n' cl c' w1.heap.size w.heap.size l zs w1 (by have := H2L.out; unfold maxLen; omega) (by unfold maxLen; omega) (RowI.num (RowI.of hown)) (H'.out.below hb1 (Nat.le_refl _)))
          rw [← HX.out] at CS
          clear hs hu hU hown hll
          go_wp2_with (first
            | (go_at_call 132; refine (cIn_any _ _ _ _).mono ?_; rintro e w' ⟨rfl, rfl⟩)
            | (go_at_call 104; refine CS.out.mono ?_; rintro e w' ⟨rfl, m, rfl⟩))
          go_ret
          exact ⟨rfl, below_drewR hb1 m⟩

set_option maxHeartbeats 1000000 in
theorem cStab_spec (A A' : Option Addr) (n n' c c' : Nat) (rs : List Ru) (zs : List Int) (w : World) (hb : n ≤ 1048576) (hb' : n' ≤ 1048576) (h : RulesAt w w.heap.size A n rs) (h' : NumAt w w.heap.size A' n' zs) :
    Calls Try.prog 50 #[.slice A n c, .slice A' n' c'] w fun e w' => e = .returned (.tuple #[.bool (stB rs zs), .int .i64 (sgnE rs zs)]) ∧ Below w.heap.size w w' := by
  have C := Lib.hid (cSgnS A A' n n' c c' rs zs w (by unfold maxLen; omega) (by unfold maxLen; omega) h h')
  have H := Lib.hid h
  have H' := Lib.hid h'
  clear h h'
  obtain ⟨code, hco⟩ : ∃ code, code = sgnE rs zs := ⟨_, rfl⟩
  rw [← hco] at C ⊢
  by_cases h0 : code = 0
  · subst h0
    obtain ⟨ht, hi, hz⟩ := sgn_zero hco.symm
    have HE := Lib.hid (stB_yes hco.symm)
    rw [hz] at C
    have HT := Lib.hid ht
    have HI := Lib.hid hi
    clear hco ht hi hz
    go_enter Try.func50, Try.ntmps50
    go_wp2_with fail
    refine C.out.mono ?_
    rintro e w1 ⟨A1, n1, c1, rfl, hown, hb1⟩
    have hr := row_room hown
    have CS := Lib.hid (cStable A A' A1 n n' n1 c c' c1 rs zs w1 hb HT.out HI.out hr.1 hr.2 (H.out.grow hb1) ((H'.out.below hb1 (Nat.le_refl _)).more hb1.size) (RowI.num (RowI.of hown)))
    rw [← HE.out] at CS
    clear hown hr
    go_wp2_with (go_at_call 99; refine CS.out.mono ?_; rintro e w2 ⟨rfl, hb2⟩)
    go_ret2
    exact ⟨rfl, hb1.trans (hb2.mono hb1.size)⟩
  · have HE := Lib.hid (stB_no (by rw [← hco]; exact h0))
    have hd : (code != 0) = true := by simpa using h0
    rw [HE.out]
    clear hco
    go_enter Try.func50, Try.ntmps50
    go_wp2_with (go_at_call 97; refine C.out.mono ?_; rintro e w1 ⟨A1, n1, c1, rfl, hown, hb1⟩)
    go_ret2
    exact ⟨rfl, hb1⟩
end Go.Proofs.Ytnfdbpfegmodcaa
