/-
  The contracts of SignsCovered of both packages.
-/
import Derived.Test.YtnodnjaajaemcabUsedS
import Derived.Test.YtnodnjaajaemcabShelf
import Derived.Sort.OwnSortedInts
namespace Go.Proofs.Ytnodnjaajaemcab
set_option linter.unusedVariables false
open Go.RowKit

def sgl (r : Ru) : Option Int := match r.1 with | [x] => some x | _ => none
theorem sgl_some {r : Ru} {x : Int} : sgl r = some x ↔ r.1 = [x] := by
  unfold sgl
  split
  · rename_i y h; rw [h]; simp
  · rename_i h; constructor
    · intro e; cases e
    · intro e; exact absurd e (h x)
def sgls (rs : List Ru) : List Int := rs.filterMap sgl
theorem sgls_step {rs : List Ru} {k : Nat} {r : Ru} (h : rs[k]? = some r) : sgls (rs.take (k + 1)) = sgls (rs.take k) ++ (match sgl r with | some x => [x] | none => []) := by
  rw [takeK_snoc h]; unfold sgls
  rw [List.filterMap_append]
  congr 1
  cases hs : sgl r with
  | none => rw [List.filterMap_cons_none hs]; rfl
  | some x => rw [List.filterMap_cons_some hs]; rfl
theorem sgls_mem {rs : List Ru} {x : Int} : x ∈ sgls rs ↔ [x] ∈ keys rs := by
  unfold sgls keys
  rw [List.mem_filterMap, List.mem_map]
  constructor
  · rintro ⟨r, h1, h2⟩; exact ⟨r, h1, sgl_some.1 h2⟩
  · rintro ⟨r, h1, h2⟩; exact ⟨r, h1, sgl_some.2 h2⟩
theorem sgls_len (rs : List Ru) : (sgls rs).length ≤ rs.length := List.length_filterMap_le _ _
theorem sgls_nodup : ∀ {rs : List Ru}, (keys rs).Nodup → (sgls rs).Nodup
  | [], _ => by simp [sgls]
  | r :: rs, h => by
    unfold keys at h
    rw [List.map_cons, List.nodup_cons] at h
    have ih := sgls_nodup (rs := rs) h.2
    unfold sgls at *
    cases hs : sgl r with
    | none => rw [List.filterMap_cons_none hs]; exact ih
    | some x =>
      rw [List.filterMap_cons_some hs, List.nodup_cons]
      refine ⟨fun hm => ?_, ih⟩
      have := (sgls_mem (rs := rs)).1 hm
      rw [sgl_some.1 hs] at h
      exact h.1 this
theorem inc_unique : ∀ {xs ys : List Int}, xs.Pairwise (· < ·) → ys.Pairwise (· < ·) → (∀ z, z ∈ xs ↔ z ∈ ys) → xs = ys
  | [], [], _, _, _ => rfl
  | [], y :: ys, _, _, h => absurd ((h y).2 (by simp)) (by simp)
  | x :: xs, [], _, _, h => absurd ((h x).1 (by simp)) (by simp)
  | x :: xs, y :: ys, hx, hy, h => by
    rw [List.pairwise_cons] at hx hy
    have e : x = y := by
      rcases List.mem_cons.1 ((h x).1 (by simp)) with e | h1
      · exact e
      · rcases List.mem_cons.1 ((h y).2 (by simp)) with e | h2
        · exact e.symm
        · have := hx.1 y h2; have := hy.1 x h1; omega
    subst e
    congr 1
    refine inc_unique hx.2 hy.2 fun z => ?_
    have hz := h z
    rw [List.mem_cons, List.mem_cons] at hz
    constructor
    · intro hm
      rcases hz.1 (.inr hm) with e | h1
      · have := hx.1 z hm; omega
      · exact h1
    · intro hm
      rcases hz.2 (.inr hm) with e | h1
      · have := hy.1 z hm; omega
      · exact h1
def covU (rs : List Ru) (i : Nat) : List Int := ((List.range i).map fun (j : Nat) => (j : Int)).filter fun s => decide ([s] ∈ keys rs)
theorem covU_yes {rs : List Ru} {i : Nat} (h : [(i : Int)] ∈ keys rs) : covU rs (i + 1) = covU rs i ++ [(i : Int)] := by
  unfold covU; rw [List.range_succ, List.map_append, List.filter_append]
  congr 1
  simp [h]
theorem covU_no {rs : List Ru} {i : Nat} (h : [(i : Int)] ∉ keys rs) : covU rs (i + 1) = covU rs i := by
  unfold covU; rw [List.range_succ, List.map_append, List.filter_append]
  simp [h]
theorem covU_len (rs : List Ru) (i : Nat) : (covU rs i).length ≤ i := by
  unfold covU
  refine Nat.le_trans (List.length_filter_le _ _) ?_
  simp
theorem covU_inc (rs : List Ru) (i : Nat) : (covU rs i).Pairwise (· < ·) := by
  unfold covU
  refine List.Pairwise.filter _ ?_
  rw [List.pairwise_map]
  exact List.pairwise_lt_range.imp (fun h => by omega)
theorem cov_sorted {rs : List Ru} (h : tableB rs = true) : (sgls rs).mergeSort (fun x y => decide (x ≤ y)) = covU rs 20 := by
  have hp := List.mergeSort_perm (sgls rs) (fun x y => decide (x ≤ y))
  have hs := List.pairwise_mergeSort (le := fun (x y : Int) => decide (x ≤ y)) (fun a b c h1 h2 => by simp at *; omega) (fun a b => by simp; omega) (sgls rs)
  have hn : ((sgls rs).mergeSort (fun x y => decide (x ≤ y))).Nodup := hp.nodup_iff.2 (sgls_nodup (goodT_nodup (table_good h)))
  refine inc_unique ?_ (covU_inc rs 20) fun z => ?_
  · refine (hs.and hn).imp ?_
    rintro a b ⟨h1, h2⟩
    simp at h1
    omega
  · rw [hp.mem_iff, sgls_mem]
    unfold covU
    rw [List.mem_filter, List.mem_map]
    constructor
    · intro hm
      refine ⟨?_, by simpa using hm⟩
      unfold keys at hm
      obtain ⟨r, hr, he⟩ := List.mem_map.1 hm
      have hb := signs_all (rule_signs (goodT_mem (table_good h) hr)) z (by rw [he]; simp)
      exact ⟨z.toNat, by rw [List.mem_range]; omega, by omega⟩
    · rintro ⟨_, hm⟩; simpa using hm

def covZ (rs : List Ru) : List Int := if tableB rs then covU rs 20 else []
def covC (rs : List Ru) : Int := if tableB rs then 0 else 1

theorem covZ_len (rs : List Ru) : (covZ rs).length ≤ 20 := by
  unfold covZ; split
  · exact covU_len rs 20
  · exact Nat.zero_le _
/-- slices.Sort at a row of one's own. -/
theorem cSort (B n : Nat) (v : Value) (xs : List Int) (w : World) (hn : n = xs.length) (hs : n ≤ 1048576) (h : w.ownsRow B 2 1 v n (intV xs)) (hB : B ≤ w.heap.size) :
    Calls Try.prog 27 #[v] w fun e w' => e = .returned (.tuple #[]) ∧ w'.ownsRow B 2 1 v n (intV (xs.mergeSort fun x y => decide (x ≤ y))) ∧ Below B w w' := by
  rcases h.2 with ⟨rfl, h0⟩ | ⟨g, cap, cur, rfl, hg, hb, h1, h2, h3, h4⟩
  · have hx : xs = [] := List.length_eq_zero_iff.1 (by omega)
    subst hx
    refine (show Calls Try.prog _ _ _ _ from AnyG.slices_Sort_int_none Try.sortI none 0 w).mono ?_
    rintro e w' ⟨rfl, rfl⟩
    exact ⟨rfl, by simpa using h, Below.refl _ _⟩
  · subst hn
    have hH : Sort.Holds (Value.int .i64) w g 0 xs.toArray := holds_of_blockI hb (by rw [Nat.mul_one] at h4; exact h4)
    have hlt := (Array.getElem?_eq_some_iff.1 hb).1
    refine (show Calls Try.prog _ _ _ _ from AnyG.slices_Sort_int Try.sortI g 0 cap xs w hH hlt (by omega)).mono ?_
    rintro e w' ⟨rfl, m, os, rfl⟩
    have hl : (xs.mergeSort fun x y => decide (x ≤ y)).length = xs.length := List.length_mergeSort _
    refine ⟨rfl, ownsRow_sortedI hl hg hb h1 h2 h3, (Below.refl B w).grown (grownBy_sortedI _) hB (fun k hk => by cases hk; exact hg)⟩

set_option maxHeartbeats 1000000 in
set_option maxRecDepth 100000 in
theorem cCov_impl (A : Option Addr) (n c : Nat) (rs : List Ru) (w : World) (hb : n ≤ 1048576) (h : RulesAt w w.heap.size A n rs) :
    Calls Try.prog 13 #[.slice A n c] w (UOut (covZ rs) (covC rs) w) := by
  obtain ⟨i0, hi0, hz0, hz1, hz2⟩ := info_parts info_i64
  have CT := Lib.hid (cIsTable A n c rs w (by unfold maxLen; omega) h)
  have HL := Lib.hid h.1
  have H := Lib.hid h
  unfold covZ covC
  clear h
  cases ht : tableB rs
  · rw [ht] at CT
    clear ht
    go_enter Try.func13, Try.ntmps13
    go_wp2_with (go_at_call 26; refine CT.out.mono ?_; rintro e w1 ⟨rfl, hb1⟩)
    go_ret2
    exact uOut_nil hb1
  · rw [ht] at CT
    have HT := Lib.hid ht
    clear ht
    go_enter Try.func13, Try.ntmps13
    go_wp2_with fail
    refine CT.out.mono ?_
    rintro e w1 ⟨rfl, hb1⟩
    go_wp2_with fail
    go_loopw [4, 12] (fun u i wr => ∃ (k q : Nat) (uv : Value), uv = u ∧ k ≤ n ∧ i = .int .i64 k ∧ q ≤ k ∧ Hid (q = (sgls (rs.take k)).length) ∧ wr.ownsRow w.heap.size 2 1 uv q (intV (sgls (rs.take k))) ∧ Below w.heap.size w wr) (fun _ i _ => n - (intOf i).toNat)
    case atStart => exact ⟨0, 0, _, rfl, Nat.zero_le _, rfl, Nat.le_refl _, Lib.hid rfl, World.ownsRow_nil _ _ _ _, hb1⟩
    case round =>
      obtain ⟨k, q, uv, rfl, hk, rfl, hqk, HQ, hown, hbw⟩ := hrel
      by_cases hlt : k < n
      · obtain ⟨r, hr⟩ : ∃ r, rs[k]? = some r := ⟨rs[k]'(by have := HL.out; omega), List.getElem?_eq_getElem _⟩
        obtain ⟨b, o, rfl, hbl, A1, n1, c1, k0, k1, k2, k3, k4⟩ := (H.out.below hbw (Nat.le_refl _)).row hr
        have HB := Lib.hid hbw
        have hst := sgls_step hr
        have hlr := rule_signs (goodT_mem (table_good HT.out) (List.mem_of_getElem? hr))
        have hl3 := signs_len hlr
        have hBA := hbw.alloc hbw.size (.cells #[.slice A1 n1 c1, .string r.2] 44)
        have hoA := hown.alloc (.cells #[.slice A1 n1 c1, .string r.2] 44)
        by_cases h1 : n1 = 1
        · obtain ⟨x, hx⟩ : ∃ x, r.1 = [x] := by
            have := k2.1
            match hr1 : r.1, this with
            | [x], _ => exact ⟨x, rfl⟩
            | [], e => simp at e; omega
            | a :: b :: l, e => simp at e; omega
          rw [sgl_some.2 hx] at hst
          subst h1
          obtain ⟨b2, o2, rfl, hb2, hcx⟩ := k2.row (show r.1[0]? = some x by rw [hx]; rfl)
          have hcx2 : (wr.alloc (.cells #[.slice (some ⟨b2, o2, none⟩) 1 c1, .string r.2] 44)).cell? ⟨b2, o2, none⟩ = some (.int .i64 x) := (World.cell?_alloc_lt wr _ ⟨b2, o2, none⟩ (by have := hbw.size; show b2 < _; omega)).trans hcx
          have HS := Lib.hid hst
          have d1 : ((1 : Nat) : Int) = 1 := rfl
          have H0 := Lib.hid hoA
          have H1 := Lib.hid hBA
          clear hst hlr hl3 k2 k3 k4 hcx hr hx hbw hown hoA hBA
          go_wp2_with (at_builtin; refine wpList_append_own _ rfl _ _ 23 rfl w.heap.size 2 i0 _ 1 8 Try.underlying23 hi0 hz0 hz1 hz2 rfl (by decide) _ _ _ rfl (H0.out.alloc _) ⟨wr.heap.size + 1, 0, none⟩ 1 1 [.int .i64 x] rfl rfl ?c1 ?c2 ?c3 ?c4 ?c5 ?_)
          case c2 => first
            | rfl
            | (intro u hu; simp at hu; subst hu; rfl)
          case c3 => unfold maxLen; omega
          case c4 => omega
          case c5 => have := HB.out.size; simp; omega
          intro v' w2 hown2 hgrow2 _
          rw [intV_snoc] at hown2
          have hB2 : Below w.heap.size w w2 := ((H1.out).alloc H1.out.size _).grown hgrow2 (by have := HB.out.size; simp; omega) (fun y hy => (H0.out.lt y hy).1)
          clear hgrow2
          go_wp2
          go_roundw
          case rel => exact ⟨k + 1, q + 1, v', rfl, by omega, by go_num, by omega, Lib.hid (by rw [HS.out, List.length_append, HQ.out]; rfl), by rw [HS.out]; exact hown2, hB2⟩
          case measure => simp [intOf]; omega
        · have hs0 : sgl r = none := by
            cases hs : sgl r with
            | none => rfl
            | some x => have := sgl_some.1 hs; have h5 := k2.1; rw [this] at h5; exact absurd h5 h1
          rw [hs0, List.append_nil] at hst
          have HS := Lib.hid hst
          have H1 := Lib.hid hBA
          have d0 : ((n1 : Int) == 1) = false := by simp; omega
          have d1 : (n1 == 1) = false := by simpa using h1
          clear hst hlr hl3 k2 k3 k4 hr hbw hs0 hBA
          go_wp2_with fail
          go_roundw
          case rel => exact ⟨k + 1, q, _, rfl, by omega, by go_num, by omega, Lib.hid (by rw [HS.out]; exact HQ.out), by rw [HS.out]; exact hoA, H1.out⟩
          case measure => simp [intOf]; omega
      · have hall : rs.take k = rs := List.take_of_length_le (by have := HL.out; omega)
        have hq := HQ.out
        rw [hall] at hown hq
        have CS := Lib.hid (cSort w.heap.size q uv (sgls rs) wr hq (by omega) hown hbw.size)
        have HC : Hid ((sgls rs).mergeSort (fun x y => decide (x ≤ y)) = covU rs 20) := Lib.hid (cov_sorted HT.out)
        clear hall hq
        go_wp2_with (go_at_call 27; refine CS.out.mono ?_; rintro e w2 ⟨rfl, hown2, hb2⟩)
        go_ret2
        rw [HC.out] at hown2
        obtain ⟨A1, c1, rfl⟩ := row_slice hown2
        exact ⟨A1, _, c1, rfl, hown2, hbw.trans hb2⟩

theorem num_one (w : World) (x : Int) : NumAt (w.alloc (.cells #[.int .i64 x] 2)) (w.alloc (.cells #[.int .i64 x] 2)).heap.size (some ⟨w.heap.size, 0, none⟩) 1 [x] :=
  ⟨rfl, fun _ => ⟨w.heap.size, 0, rfl, by simp, fun j y hy => by
    match j, hy with
    | 0, hy => obtain rfl : x = y := by simpa using hy
               exact new_one w _ _⟩⟩

set_option maxHeartbeats 1000000 in
set_option maxRecDepth 100000 in
theorem cCov_spec (A : Option Addr) (n c : Nat) (rs : List Ru) (w : World) (hb : n ≤ 1048576) (h : RulesAt w w.heap.size A n rs) :
    Calls Try.prog 12 #[.slice A n c] w (UOut (covZ rs) (covC rs) w) := by
  obtain ⟨i0, hi0, hz0, hz1, hz2⟩ := info_parts info_i64
  have CT := Lib.hid (cIsTable_spec A n c _ rs w (by unfold maxLen; omega) h (Nat.le_refl _))
  have H := Lib.hid h
  unfold covZ covC
  clear h
  cases ht : tableB rs
  · rw [ht] at CT
    clear ht
    go_enter Try.func12, Try.ntmps12
    go_wp2_with (go_at_call 24; refine CT.out.mono ?_; rintro e w1 ⟨rfl, hb1⟩)
    go_ret2
    exact uOut_nil hb1
  · rw [ht] at CT
    clear ht
    go_enter Try.func12, Try.ntmps12
    go_wp2_with fail
    refine CT.out.mono ?_
    rintro e w1 ⟨rfl, hb1⟩
    go_wp2_with fail
    go_loopw [4, 5] (fun u i wr => ∃ (k q : Nat) (uv : Value), uv = u ∧ k ≤ 20 ∧ i = .int .i64 k ∧ q ≤ k ∧ Hid (q = (covU rs k).length) ∧ wr.ownsRow w.heap.size 2 1 uv q (intV (covU rs k)) ∧ Below w.heap.size w wr) (fun _ i _ => 20 - (intOf i).toNat)
    case atStart => exact ⟨0, 0, _, rfl, Nat.zero_le _, rfl, Nat.le_refl _, Lib.hid rfl, World.ownsRow_lit (e := 2) (base := w.heap.size) (size := 1) w1 #[] 0 hb1.size (by decide) rfl, hb1.alloc hb1.size _⟩
    case round =>
      obtain ⟨k, q, uv, rfl, hk, rfl, hqk, HQ, hown, hbw⟩ := hrel
      by_cases hlt : k < 20
      · have hlt' : (k : Int) < 20 := by omega
        have HB := Lib.hid hbw
        have B1 := hbw.alloc hbw.size (.cells #[.int .i64 (k : Int)] 2)
        have HB1 := Lib.hid B1
        have CF := Lib.hid (cFindK A (some ⟨wr.heap.size, 0, none⟩) n 1 c 1 w.heap.size _ rs [(k : Int)] _ (by unfold maxLen; omega) (by unfold maxLen; omega) (H.out.below B1 (Nat.le_refl _)) (num_one wr (k : Int)))
        have hoA := hown.alloc (.cells #[.int .i64 (k : Int)] 2)
        by_cases hm : [(k : Int)] ∈ keys rs
        · have hf : findK (keys rs) [(k : Int)] = (posK (keys rs) [(k : Int)] : Int) := by unfold findK; rw [if_pos hm]
          rw [hf] at CF
          obtain ⟨p, hp⟩ : ∃ p, p = posK (keys rs) [(k : Int)] := ⟨_, rfl⟩
          rw [← hp] at CF
          have p0 : (0 : Int) ≤ (p : Int) := by omega
          have HS := Lib.hid (covU_yes hm)
          have H0 := Lib.hid hoA
          clear hm hf hp hoA hown B1 hbw
          go_wp2_with (first
            | (go_at_call 25; refine CF.out.mono ?_; rintro e w2 ⟨rfl, m, rfl⟩)
            | (at_builtin; refine wpList_append_own _ rfl _ _ 23 rfl w.heap.size 2 i0 _ 1 8 Try.underlying23 hi0 hz0 hz1 hz2 rfl (by decide) _ _ _ rfl (World.ownsRow.alloc (w := (wr.alloc (.cells #[.int .i64 (k : Int)] 2)).drewN m) H0.out _) ⟨wr.heap.size + 1, 0, none⟩ 1 1 [.int .i64 (k : Int)] rfl rfl ?c1 ?c2 ?c3 ?c4 ?c5 ?_))
          case c1 => first
            | exact one_cell' _ _ _ (by have hh := new_one ((wr.alloc (.cells #[.int .i64 (k : Int)] 2)).drewN m) (.int .i64 (k : Int)) 2; simpa using hh)
            | (intro j u hju
               have hh := one_cell' _ _ _ (new_one ((wr.alloc (.cells #[.int .i64 (k : Int)] 2)).drewN m) (.int .i64 (k : Int)) 2) j u hju
               rw [add_plain', Nat.zero_add] at hh
               simpa using hh)
          case c2 => first
            | rfl
            | (intro u hu; simp at hu; subst hu; rfl)
          case c3 => unfold maxLen; omega
          case c4 => omega
          case c5 => have := HB.out.size; simp; omega
          intro v' w2 hown2 hgrow2 _
          rw [intV_snoc] at hown2
          have hB2 : Below w.heap.size w w2 := ((below_drewR HB1.out m).alloc HB1.out.size _).grown hgrow2 (by have := HB.out.size; simp; omega) (fun y hy => (H0.out.lt y hy).1)
          clear hgrow2
          go_wp2
          go_roundw
          case rel => exact ⟨k + 1, q + 1, v', rfl, by omega, by go_num, by omega, Lib.hid (by rw [HS.out, List.length_append, HQ.out]; rfl), by rw [HS.out]; exact hown2, hB2⟩
          case measure => simp [intOf]; omega
        · have hf : findK (keys rs) [(k : Int)] = -1 := findK_miss _ _ hm
          rw [hf] at CF
          have HS := Lib.hid (covU_no hm)
          clear hm hf B1 hbw
          go_wp2_with (go_at_call 25; refine CF.out.mono ?_; rintro e w2 ⟨rfl, m, rfl⟩)
          go_roundw
          case rel => exact ⟨k + 1, q, _, rfl, by omega, by go_num, by omega, Lib.hid (by rw [HS.out]; exact HQ.out), by rw [HS.out]; exact hoA, below_drewR HB1.out m⟩
          case measure => simp [intOf]; omega
      · obtain rfl : k = 20 := by omega
        have hq := HQ.out
        subst hq
        obtain ⟨A1, c1, rfl⟩ := row_slice hown
        go_wp2
        go_ret2
        exact ⟨A1, _, c1, rfl, hown, hbw⟩
end Go.Proofs.Ytnodnjaajaemcab
