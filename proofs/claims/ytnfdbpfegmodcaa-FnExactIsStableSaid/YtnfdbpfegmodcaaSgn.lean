/-
  The contracts of impl.SignsOfParsing and spec.SignsOfParsing (spec.l05Signs).
-/
import Derived.Test.YtnfdbpfegmodcaaUsedS
import Derived.Test.YtnfdbpfegmodcaaWithin
namespace Go.Proofs.Ytnfdbpfegmodcaa
set_option linter.unusedVariables false
open Go.RowKit

def signsAt (rs : List Ru) (i : Int) : List Int := ((rs[i.toNat]?).map (·.1)).getD []
theorem signsAt_at {rs : List Ru} {q : Nat} {r : Ru} (h : rs[q]? = some r) : signsAt rs (q : Int) = r.1 := by unfold signsAt; rw [Int.toNat_natCast, h]; rfl
def catS (rs : List Ru) (zs : List Int) : List Int := zs.flatMap (signsAt rs)
theorem catS_zero (rs : List Ru) (zs : List Int) : catS rs (zs.take 0) = [] := rfl
theorem catS_step {rs : List Ru} {zs : List Int} {k : Nat} {i : Int} (h : zs[k]? = some i) : catS rs (zs.take (k + 1)) = catS rs (zs.take k) ++ signsAt rs i := by
  rw [takeK_snoc h]; simp [catS]
theorem catS_all {rs : List Ru} {zs : List Int} {k : Nat} (h : zs.length ≤ k) : catS rs (zs.take k) = catS rs zs := by rw [List.take_of_length_le h]
theorem signsAt_len {rs : List Ru} (h : tableB rs = true) (i : Int) : (signsAt rs i).length ≤ 3 := by
  unfold signsAt
  cases hr : rs[i.toNat]? with
  | none => exact Nat.zero_le _
  | some r => exact (signs_len (rule_signs (goodT_mem (table_good h) (List.mem_of_getElem? hr)))).2
theorem catS_len {rs : List Ru} (h : tableB rs = true) : ∀ zs : List Int, (catS rs zs).length ≤ zs.length * 3
  | [] => by simp [catS]
  | z :: zs => by
    have h1 := signsAt_len h z
    have h2 := catS_len h zs
    simp [catS] at *
    omega
/-- The indices of a list are indices of n rules, and at most 48. -/
def idxB (n : Nat) (zs : List Int) : Bool := decide (zs.length ≤ 48) && allW 0 ((n : Int) - 1) zs
theorem idx_len {n : Nat} {zs : List Int} (h : idxB n zs = true) : zs.length ≤ 48 := by unfold idxB at h; rw [Bool.and_eq_true, decide_eq_true_eq] at h; exact h.1
theorem idx_all {n : Nat} {zs : List Int} (h : idxB n zs = true) : allW 0 ((n : Int) - 1) zs = true := by unfold idxB at h; rw [Bool.and_eq_true] at h; exact h.2
theorem idx_mem {n : Nat} {zs : List Int} (h : idxB n zs = true) {i : Int} (hi : i ∈ zs) : ∃ q : Nat, i = (q : Int) ∧ q < n := by
  have := allW_mem (idx_all h) hi
  exact ⟨i.toNat, by omega, by omega⟩
def sgnE (rs : List Ru) (zs : List Int) : Int := if tableB rs then (if idxB rs.length zs then 0 else 2) else 1
def sgnZ (rs : List Ru) (zs : List Int) : List Int := if tableB rs && idxB rs.length zs then catS rs zs else []
theorem sgn_bad {rs : List Ru} {zs : List Int} (h : tableB rs = false) : sgnE rs zs = 1 ∧ sgnZ rs zs = [] := by unfold sgnE sgnZ; rw [h]; exact ⟨rfl, rfl⟩
theorem sgn_range {rs : List Ru} {zs : List Int} (h : tableB rs = true) (h2 : idxB rs.length zs = false) : sgnE rs zs = 2 ∧ sgnZ rs zs = [] := by unfold sgnE sgnZ; rw [h, h2]; exact ⟨rfl, rfl⟩
theorem sgn_ok {rs : List Ru} {zs : List Int} (h : tableB rs = true) (h2 : idxB rs.length zs = true) : sgnE rs zs = 0 ∧ sgnZ rs zs = catS rs zs := by unfold sgnE sgnZ; rw [h, h2]; exact ⟨rfl, rfl⟩
theorem sgnZ_len (rs : List Ru) (zs : List Int) : (sgnZ rs zs).length ≤ zs.length * 3 := by
  cases h : tableB rs
  · rw [(sgn_bad h).2]; exact Nat.zero_le _
  · cases h2 : idxB rs.length zs
    · rw [(sgn_range h h2).2]; exact Nat.zero_le _
    · rw [(sgn_ok h h2).2]; exact catS_len h zs
theorem numAt_cells {w : World} {B n : Nat} {A : Option Addr} {xs : List Int} (h : NumAt w B A n xs) (hp : 0 < n) : ∃ b o, A = some ⟨b, o, none⟩ ∧ ∀ j v, (intV xs)[j]? = some v → w.cell? ((⟨b, o, none⟩ : Addr).add j) = some v := by
  obtain ⟨b, o, rfl, _, hc⟩ := h.2 hp
  refine ⟨b, o, rfl, fun j v hv => ?_⟩
  simp [intV] at hv
  obtain ⟨x, hx, rfl⟩ := hv
  rw [add_plain']
  exact hc j x hx
theorem intV_one {xs : List Int} : ∀ u ∈ intV xs, u.oneCell' = true := by
  intro u hu
  simp [intV] at hu
  obtain ⟨x, _, rfl⟩ := hu
  rfl
theorem intV_app (xs ys : List Int) : intV xs ++ intV ys = intV (xs ++ ys) := by simp [intV]

theorem cIndices (A : Option Addr) (n c B m : Nat) (xs : List Int) (w : World) (hbig : n ≤ maxLen) (hm : m ≤ maxLen) (h : NumAt w B A n xs) :
    Calls Try.prog 98 #[.slice A n c, .int .i64 (m : Int)] w fun e w' => e = .returned (.bool (allW 0 ((m : Int) - 1) xs)) ∧ w = w' := by
  have C := Lib.hid (cWithin A n c B xs 0 ((m : Int) - 1) w hbig h)
  unfold maxLen at hm
  clear h
  go_enter Try.func98, Try.ntmps98
  go_wp2_with (go_at_call 111; refine C.out.mono ?_; rintro e w' ⟨rfl, rfl⟩)
  go_ret
  exact ⟨rfl, rfl⟩

set_option maxHeartbeats 2000000 in
set_option maxRecDepth 100000 in
theorem cSgn_impl (A A' : Option Addr) (n n' c c' : Nat) (rs : List Ru) (zs : List Int) (w : World) (hb : n ≤ maxLen) (hb' : n' ≤ maxLen) (h : RulesAt w w.heap.size A n rs) (h' : NumAt w w.heap.size A' n' zs) :
    Calls Try.prog 49 #[.slice A n c, .slice A' n' c'] w (UOut (sgnZ rs zs) (sgnE rs zs) w) := by
  obtain ⟨i0, hi0, hz0, hz1, hz2⟩ := info_parts info_i64
  have CT := Lib.hid (cIsTable A n c rs w hb h)
  have CI := Lib.hid (fun (W : World) (hW : Below w.heap.size w W) => cIndices A' n' c' w.heap.size n zs W hb' hb (h'.below hW (Nat.le_refl _)))
  have HL := Lib.hid h.1
  have HL' := Lib.hid h'.1
  have H := Lib.hid h
  have H' := Lib.hid h'
  unfold maxLen at hb hb'
  clear h h'
  cases h1 : tableB rs
  · rw [h1] at CT
    obtain ⟨e1, e2⟩ := sgn_bad (zs := zs) h1
    rw [e1, e2]
    clear h1 e1 e2
    go_enter Try.func49, Try.ntmps49
    go_wp2_with (go_at_call 29; refine CT.out.mono ?_; rintro e w1 ⟨rfl, hb1⟩)
    go_ret2
    exact uOut_nil hb1
  rw [h1] at CT
  by_cases h48 : 48 < n'
  · obtain ⟨e1, e2⟩ := sgn_range (zs := zs) h1 (by unfold idxB; rw [decide_eq_false (by have := HL'.out; omega)]; rfl)
    rw [e1, e2]
    clear h1 e1 e2
    go_enter Try.func49, Try.ntmps49
    go_wp2_with (go_at_call 29; refine CT.out.mono ?_; rintro e w1 ⟨rfl, hb1⟩)
    go_ret2
    exact uOut_nil hb1
  have hix : idxB rs.length zs = allW 0 ((n : Int) - 1) zs := by unfold idxB; rw [decide_eq_true (by have := HL'.out; omega), Bool.true_and, HL.out]
  cases h2 : allW 0 ((n : Int) - 1) zs
  · rw [h2] at CI
    obtain ⟨e1, e2⟩ := sgn_range (zs := zs) h1 (by rw [hix, h2])
    rw [e1, e2]
    clear h1 e1 e2 hix h2
    go_enter Try.func49, Try.ntmps49
    go_wp2_with (first
      | (go_at_call 29; refine CT.out.mono ?_; rintro e w1 ⟨rfl, hb1⟩)
      | (go_at_call 98; refine (CI.out _ hb1).mono ?_; rintro e w2 ⟨rfl, rfl⟩))
    go_ret2
    exact uOut_nil hb1
  rw [h2] at CI
  have hidx : idxB rs.length zs = true := by rw [hix, h2]
  obtain ⟨e1, e2⟩ := sgn_ok h1 hidx
  rw [e1, e2]
  have HI := Lib.hid hidx
  have HT := Lib.hid h1
  clear h1 e1 e2 hix h2 hidx
  go_enter Try.func49, Try.ntmps49
  go_wp2_with (first
    | (go_at_call 29; refine CT.out.mono ?_; rintro e w1 ⟨rfl, hb1⟩)
    | (go_at_call 98; refine (CI.out _ hb1).mono ?_; rintro e w2 ⟨rfl, rfl⟩))
  go_loopw [6, 24] (fun u i wr => ∃ (k m : Nat) (uv : Value), u = uv ∧ k ≤ n' ∧ i = .int .i64 k ∧ m ≤ k * 3 ∧ Hid (m = (catS rs (zs.take k)).length) ∧ wr.ownsRow w.heap.size 2 1 uv m (intV (catS rs (zs.take k))) ∧ Below w.heap.size w wr) (fun _ i _ => n' - (intOf i).toNat)
  case atStart => exact ⟨0, 0, _, rfl, Nat.zero_le _, rfl, Nat.le_refl _, Lib.hid rfl, World.ownsRow_nil _ _ _ _, hb1⟩
  case round =>
    obtain ⟨k, m, uv, rfl, hk, rfl, hmk, HM, hown, hbw⟩ := hrel
    by_cases hlt : k < n'
    · obtain ⟨i, hi⟩ : ∃ i, zs[k]? = some i := ⟨zs[k]'(by have := HL'.out; omega), List.getElem?_eq_getElem _⟩
      obtain ⟨b', o', rfl, hb', hci⟩ := (H'.out.below hbw (Nat.le_refl _)).row hi
      obtain ⟨q, rfl, hq⟩ := idx_mem HI.out (List.mem_of_getElem? hi)
      rw [← HL.out] at hq
      obtain ⟨r, hr⟩ : ∃ r, rs[q]? = some r := ⟨rs[q]'(by have := HL.out; omega), List.getElem?_eq_getElem _⟩
      obtain ⟨b, o, rfl, hbl, A1, n1, c1, k0, k1, k2, k3, k4⟩ := (H.out.below hbw (Nat.le_refl _)).row hr
      have hsl := signs_len (rule_signs (goodT_mem (table_good HT.out) (List.mem_of_getElem? hr)))
      have hn1 := k2.1
      obtain ⟨b2, o2, rfl, hc2⟩ := numAt_cells k2 (by omega)
      have hst : catS rs (zs.take (k + 1)) = catS rs (zs.take k) ++ r.1 := by rw [catS_step hi, signsAt_at hr]
      have HS := Lib.hid hst
      have HC2 := Lib.hid hc2
      have HN1 : Hid ((intV r.1).length = n1 * 1) := Lib.hid (by rw [intV_len]; omega)
      have h13 : n1 ≤ 3 := by omega
      have h11 : 1 ≤ n1 := by omega
      have HM2 : Hid (m + n1 = (catS rs (zs.take (k + 1))).length) := Lib.hid (by rw [hst, List.length_append, ← HM.out, ← hn1])
      have HB := Lib.hid hbw
      have q0 : (0 : Int) ≤ (q : Int) := by omega
      have q1 : (q : Int) < (n : Int) := by omega
      clear hi hr hst k1 k2 k3 k4 hsl hn1 hc2 hbw
      go_wp2_with (at_builtin; refine wpList_append_own _ rfl _ _ 25 rfl w.heap.size 2 i0 _ 1 8 Try.underlying25 hi0 hz0 hz1 hz2 rfl (by decide) _ _ _ rfl hown ⟨b2, o2, none⟩ n1 c1 (intV r.1) rfl HN1.out HC2.out intV_one ?c3 ?c4 ?c5 ?_)
      case c3 => unfold maxLen; omega
      case c4 => omega
      case c5 => exact HB.out.size
      intro v' w2 hown2 hgrow2 _
      rw [intV_app, ← HS.out] at hown2
      have hB2 : Below w.heap.size w w2 := HB.out.grown hgrow2 HB.out.size (fun x hx => (hown.lt x hx).1)
      clear hgrow2 hown HC2 HB
      go_wp2
      go_roundw
      case rel => exact ⟨k + 1, m + n1, v', rfl, by omega, by go_num, by omega, HM2, hown2, hB2⟩
      case measure => simp [intOf]; omega
    · have hall := catS_all (rs := rs) (zs := zs) (k := k) (by have := HL'.out; omega)
      rw [hall] at hown
      obtain ⟨A1, c1, rfl⟩ := row_slice hown
      have HM3 : Hid (m = (catS rs zs).length) := Lib.hid (by rw [← hall]; exact HM.out)
      clear hall
      go_wp2
      go_ret2
      exact ⟨_, _, _, rfl, hown, hbw⟩

set_option maxHeartbeats 2000000 in
set_option maxRecDepth 100000 in
theorem cSgnS (A A' : Option Addr) (n n' c c' : Nat) (rs : List Ru) (zs : List Int) (w : World) (hb : n ≤ maxLen) (hb' : n' ≤ maxLen) (h : RulesAt w w.heap.size A n rs) (h' : NumAt w w.heap.size A' n' zs) :
    Calls Try.prog 97 #[.slice A n c, .slice A' n' c'] w (UOut (sgnZ rs zs) (sgnE rs zs) w) := by
  obtain ⟨i0, hi0, hz0, hz1, hz2⟩ := info_parts info_i64
  have CT := Lib.hid (cIsTable_spec A n c w.heap.size rs w hb h (Nat.le_refl _))
  have HL := Lib.hid h.1
  have HL' := Lib.hid h'.1
  have H := Lib.hid h
  have H' := Lib.hid h'
  unfold maxLen at hb hb'
  clear h h'
  cases h1 : tableB rs
  · rw [h1] at CT
    obtain ⟨e1, e2⟩ := sgn_bad (zs := zs) h1
    rw [e1, e2]
    clear h1 e1 e2
    go_enter Try.func97, Try.ntmps97
    go_wp2_with (go_at_call 67; refine CT.out.mono ?_; rintro e w1 ⟨rfl, hb1⟩)
    go_ret2
    exact uOut_nil hb1
  rw [h1] at CT
  by_cases h48 : 48 < n'
  · obtain ⟨e1, e2⟩ := sgn_range (zs := zs) h1 (by unfold idxB; rw [decide_eq_false (by have := HL'.out; omega)]; rfl)
    rw [e1, e2]
    clear h1 e1 e2
    go_enter Try.func97, Try.ntmps97
    go_wp2_with (go_at_call 67; refine CT.out.mono ?_; rintro e w1 ⟨rfl, hb1⟩)
    go_ret2
    exact uOut_nil hb1
  have hix : idxB rs.length zs = allW 0 ((n : Int) - 1) zs := by unfold idxB; rw [decide_eq_true (by have := HL'.out; omega), Bool.true_and, HL.out]
  have HT := Lib.hid h1
  have HIX := Lib.hid hix
  clear h1 hix
  go_enter Try.func97, Try.ntmps97
  go_wp2_with (go_at_call 67; refine CT.out.mono ?_; rintro e w1 ⟨rfl, hb1⟩)
  go_loopw [6, 7] (fun u i wr => ∃ (k m : Nat) (uv : Value), u = uv ∧ k ≤ n' ∧ i = .int .i64 k ∧ m ≤ k * 3 ∧ Hid (m = (catS rs (zs.take k)).length) ∧ Hid (allW 0 ((n : Int) - 1) (zs.take k) = true) ∧ wr.ownsRow w.heap.size 2 1 uv m (intV (catS rs (zs.take k))) ∧ Below w.heap.size w wr) (fun _ i _ => n' - (intOf i).toNat)
  case atStart => exact ⟨0, 0, _, rfl, Nat.zero_le _, rfl, Nat.le_refl _, Lib.hid rfl, Lib.hid (allW_zero _ _ _), World.ownsRow_lit (e := 2) (base := w.heap.size) (size := 1) w1 #[] 0 hb1.size (by decide) rfl, hb1.alloc hb1.size _⟩
  case round =>
    obtain ⟨k, m, uv, rfl, hk, rfl, hmk, HM, HA, hown, hbw⟩ := hrel
    by_cases hlt : k < n'
    · obtain ⟨i, hi⟩ : ∃ i, zs[k]? = some i := ⟨zs[k]'(by have := HL'.out; omega), List.getElem?_eq_getElem _⟩
      obtain ⟨b', o', rfl, hb', hci⟩ := (H'.out.below hbw (Nat.le_refl _)).row hi
      by_cases hin : 0 ≤ i ∧ i ≤ (n : Int) - 1
      · have hd : (decide (0 ≤ i) && decide (i ≤ (n : Int) - 1)) = true := by rw [decide_eq_true hin.1, decide_eq_true hin.2]; rfl
        have HA2 := Lib.hid (allW_step hi HA.out hin.1 hin.2)
        obtain ⟨q, rfl⟩ : ∃ q : Nat, i = (q : Int) := ⟨i.toNat, by omega⟩
        have hq : q < n := by omega
        obtain ⟨r, hr⟩ : ∃ r, rs[q]? = some r := ⟨rs[q]'(by have := HL.out; omega), List.getElem?_eq_getElem _⟩
        obtain ⟨b, o, rfl, hbl, A1, n1, c1, k0, k1, k2, k3, k4⟩ := (H.out.below hbw (Nat.le_refl _)).row hr
        have hsl := signs_len (rule_signs (goodT_mem (table_good HT.out) (List.mem_of_getElem? hr)))
        have hn1 := k2.1
        obtain ⟨b2, o2, rfl, hc2⟩ := numAt_cells k2 (by omega)
        have hst : catS rs (zs.take (k + 1)) = catS rs (zs.take k) ++ r.1 := by rw [catS_step hi, signsAt_at hr]
        have HS := Lib.hid hst
        have HC2 := Lib.hid hc2
        have HN1 : Hid ((intV r.1).length = n1 * 1) := Lib.hid (by rw [intV_len]; omega)
        have h13 : n1 ≤ 3 := by omega
        have h11 : 1 ≤ n1 := by omega
        have HM2 : Hid (m + n1 = (catS rs (zs.take (k + 1))).length) := Lib.hid (by rw [hst, List.length_append, ← HM.out, ← hn1])
        have HB := Lib.hid hbw
        have q0 : (0 : Int) ≤ (q : Int) := by omega
        have q1 : (q : Int) < (n : Int) := by omega
        have q2 : (q : Int) ≤ (n : Int) - 1 := by omega
        clear hi hr hst k1 k2 k3 k4 hsl hn1 hc2 hbw hin
        go_wp2_with (first
          | (go_at_call 132; refine (cIn_any _ _ _ _).mono ?_; rintro e w' ⟨rfl, rfl⟩)
          | (at_builtin; refine wpList_append_own _ rfl _ _ 25 rfl w.heap.size 2 i0 _ 1 8 Try.underlying25 hi0 hz0 hz1 hz2 rfl (by decide) _ _ _ rfl hown ⟨b2, o2, none⟩ n1 c1 (intV r.1) rfl HN1.out HC2.out intV_one ?c3 ?c4 ?c5 ?_))
        case c3 => unfold maxLen; omega
        case c4 => omega
        case c5 => exact HB.out.size
        intro v' w2 hown2 hgrow2 _
        rw [intV_app, ← HS.out] at hown2
        have hB2 : Below w.heap.size w w2 := HB.out.grown hgrow2 HB.out.size (fun x hx => (hown.lt x hx).1)
        clear hgrow2 hown HC2 HB
        go_wp2
        go_roundw
        case rel => exact ⟨k + 1, m + n1, v', rfl, by omega, by go_num, by omega, HM2, HA2, hown2, hB2⟩
        case measure => simp [intOf]; omega
      · have hd : (decide (0 ≤ i) && decide (i ≤ (n : Int) - 1)) = false := by
          cases h : (decide (0 ≤ i) && decide (i ≤ (n : Int) - 1))
          · rfl
          · simp at h; omega
        obtain ⟨e1, e2⟩ := sgn_range (rs := rs) (zs := zs) HT.out (by rw [HIX.out]; exact allW_stop hi (by omega))
        have E1 := Lib.hid e1
        have E2 := Lib.hid e2
        clear hin e1 e2 hi
        go_wp2_with (go_at_call 132; refine (cIn_any _ _ _ _).mono ?_; rintro e w' ⟨rfl, rfl⟩)
        go_ret2
        rw [E1.out, E2.out]
        exact uOut_nil hbw
    · have hall := catS_all (rs := rs) (zs := zs) (k := k) (by have := HL'.out; omega)
      rw [hall] at hown
      have hA : allW 0 ((n : Int) - 1) zs = true := by rw [← allW_end (k := k) (by have := HL'.out; omega)]; exact HA.out
      obtain ⟨e1, e2⟩ := sgn_ok (rs := rs) (zs := zs) HT.out (by rw [HIX.out]; exact hA)
      have E1 := Lib.hid e1
      have E2 := Lib.hid e2
      obtain ⟨A1, c1, rfl⟩ := row_slice hown
      clear hall hA e1 e2
      go_wp2
      go_ret2
      rw [E1.out, E2.out]
      exact ⟨_, _, _, rfl, hown, hbw⟩

theorem cSgn_spec (A A' : Option Addr) (n n' c c' : Nat) (rs : List Ru) (zs : List Int) (w : World) (hb : n ≤ maxLen) (hb' : n' ≤ maxLen) (h : RulesAt w w.heap.size A n rs) (h' : NumAt w w.heap.size A' n' zs) :
    Calls Try.prog 47 #[.slice A n c, .slice A' n' c'] w (UOut (sgnZ rs zs) (sgnE rs zs) w) := by
  have C := Lib.hid (cSgnS A A' n n' c c' rs zs w hb hb' h h')
  obtain ⟨us, hus⟩ : ∃ us, us = sgnZ rs zs := ⟨_, rfl⟩
  obtain ⟨code, hco⟩ : ∃ code, code = sgnE rs zs := ⟨_, rfl⟩
  rw [← hus, ← hco] at C ⊢
  clear h h' hus hco
  go_enter Try.func47, Try.ntmps47
  go_wp2_with (go_at_call 97; refine C.out.mono ?_; rintro e w1 ⟨A1, n1, c1, rfl, hown, hb1⟩)
  go_ret2
  exact ⟨_, _, _, rfl, hown, hb1⟩
end Go.Proofs.Ytnfdbpfegmodcaa
