/-
  The contracts of spec.l01List on a row, spec.DrawReadList, and the laws' likeInts.
-/
import Derived.Test.YtdbbolnmcbhflaaDoorDrawList
import Derived.Test.YtdbbolnmcbhflaaDoorReadListS
namespace Go.Proofs.YtdbbolnmcbhflaaDoor
set_option linter.unusedVariables false
open Go.RowKit

def listT (xs : List Int) : ByteArray := if xs = [] then dash else comB (nums xs)
set_option maxHeartbeats 1000000 in
theorem cList01 (A : Option Addr) (n cap : Nat) (xs : List Int) (w : World) (hn : n ≤ 60) (hr : RowI w A n cap xs) (hb : ∀ x ∈ xs, -9999999999999 ≤ x ∧ x ≤ 9999999999999 ∧ (numB x).size ≤ 1073741824) :
    Calls Tryd.prog 53 #[.slice A n cap] w fun e w' => e = .returned (.string (listT xs)) ∧ Below w.heap.size w w' := by
  rcases Nat.eq_zero_or_pos n with rfl | hp
  · have hx : xs = [] := List.eq_nil_of_length_eq_zero hr.len
    subst hx
    clear hb
    go_enter Tryd.func53, Tryd.ntmps53
    go_wp2_with fail
    go_ret
    exact ⟨rfl, Below.refl _ _⟩
  · obtain ⟨g, rfl, hg, hc⟩ := hr.cells hp
    have hl := hr.len
    have CC := Lib.hid (cCommaG g cap n xs w hl.symm hn hg hb (fun j x hx => by rw [Nat.zero_add]; exact hc j x hx))
    have HT := Lib.hid (show listT xs = comB (nums xs) by unfold listT; rw [if_neg (by intro e; rw [e] at hl; simp at hl; omega)])
    have hd : ((n : Int) == 0) = false := by rw [beq_eq_false_iff_ne]; omega
    have hd2 : decide (n = 0) = false := decide_eq_false (by omega)
    clear hc hr hb hl
    go_enter Tryd.func53, Tryd.ntmps53
    go_wp2_with fail
    refine CC.out.mono ?_
    rintro e w' ⟨rfl, hb⟩
    go_wp2_with fail
    go_ret
    exact ⟨by rw [HT.out]; rfl, hb⟩
theorem listT_small (xs : List Int) (hl : xs.length ≤ 6) (hb : ∀ x ∈ xs, -100 ≤ x ∧ x ≤ 100) : (listT xs).size ≤ 1000 := by
  unfold listT
  split
  · show dash.size ≤ 1000
    decide
  · have h1 := com_len2 102 ((nums xs).map (·.data.toList)) (by
      intro y hy
      rw [List.mem_map] at hy
      obtain ⟨z, hz, rfl⟩ := hy
      unfold nums at hz
      rw [List.mem_map] at hz
      obtain ⟨v, hv, rfl⟩ := hz
      have h2 := numB_len v
      have h3 := size_list (numB v)
      have h4 := hb v hv
      omega)
    have h2 : ((nums xs).map (·.data.toList)).length = xs.length := by simp [nums]
    rw [h2, ← comB_data, size_list] at h1
    have h3 : xs.length * (102 + 1) ≤ 6 * 103 := Nat.mul_le_mul hl (Nat.le_refl _)
    omega

set_option maxHeartbeats 4000000 in
set_option maxRecDepth 100000 in
theorem cDrawReadList (A : Option Addr) (len cap : Nat) (w : World) (hlen : len ≤ 1048576) (h : CodeIn w A len) :
    Calls Tryd.prog 25 #[.slice A len cap] w (DrawnTextPost w) := by
  obtain ⟨i0, hi0, hz0, hz1, hz2⟩ := info_parts info_i64
  have C0 := Lib.hid (cFrom A len cap _ hlen h)
  clear h
  go_enter Tryd.func25, Tryd.ntmps25
  go_wp2_with fail
  refine C0.out.mono ?_
  rintro e w1 ⟨rfl, hS1, hb1⟩
  have hl1 := hS1.lt
  have hS2 := srcAlloc hS1 (.cells #[] 2)
  have O2 := Lib.hid (World.ownsRow_lit (e := 2) (base := w.heap.size + 1) (size := 1) w1 #[] 0 (by omega) (by decide) rfl)
  have C1 := Lib.hid (cNext w.heap.size len 6 _ hlen (by omega) (by omega) hS2)
  have hb2 := hb1.alloc hb1.size (.cells #[] 2)
  clear hS1 hS2 C0
  go_wp2_with fail
  refine C1.out.mono ?_
  rintro e w2 ⟨r, hr0, hr1, rfl, hS3, g3⟩
  have hr2 : r < 6 := by omega
  obtain ⟨n0, rfl⟩ : ∃ k : Nat, r = k := ⟨r.toNat, by omega⟩
  have hn0 : n0 < 6 := by omega
  have hb3 := hb2.grown g3 hb2.size (fun z hz => by cases hz; exact Nat.le_refl _)
  have O3 := Lib.hid (O2.out.kept g3 (.inr (by simp [Value.ownBlock]; omega)))
  have HS3 := Lib.hid hS3
  clear hS3 g3 hr1 hr2 C1
  go_wp2_with fail
  go_loopw [4, 5] (fun o i wr => ∃ (m k : Nat) (v : Value) (xs : List Int), k + m ≤ 6 ∧ i = .int .i64 m ∧ o = v ∧ Hid (∀ x ∈ xs, -100 ≤ x ∧ x ≤ 100) ∧ Hid (wr.ownsRow (w.heap.size + 1) 2 1 v k (intV xs)) ∧ Hid (Src wr w.heap.size len) ∧ Below w.heap.size w wr) (fun _ i _ => (intOf i).toNat)
  case atStart => exact ⟨n0, 0, _, [], by omega, rfl, rfl, Lib.hid (fun x hx => by simp at hx), O3, HS3, hb3⟩
  case round =>
    clear O3 HS3 hb3 O2
    obtain ⟨m, k, v, xs, hkm, rfl, rfl, HB, HO, HS, hbw⟩ := hrel
    by_cases hm : 0 < m
    · have z1 : decide ((0 : Int) < (m : Int)) = true := decide_eq_true (by omega)
      have z1' : decide (0 < m) = true := decide_eq_true hm
      have C2 := Lib.hid (cNext w.heap.size len 200 wr hlen (by omega) (by omega) HS.out)
      go_wp2_with fail
      refine C2.out.mono ?_
      rintro e w6 ⟨a, ha0, ha1, rfl, hS7, G7⟩
      have ha2 : a < 200 := by omega
      have hl7 := hS7.lt
      have hb7 := hbw.grown G7 hbw.size (fun z hz => by cases hz; exact Nat.le_refl _)
      have HO7 := Lib.hid (HO.out.kept G7 (by
        cases hv : Value.ownBlock _ with
        | none => exact .inl rfl
        | some x =>
          have h1 := (HO.out.lt x hv).1
          exact .inr (by intro e; injection e with e; omega)))
      have HS7 := Lib.hid hS7
      have HBN : Hid (∀ x ∈ xs ++ [a - 100], -100 ≤ x ∧ x ≤ 100) := Lib.hid (by
        intro x hx
        rw [List.mem_append, List.mem_singleton] at hx
        rcases hx with hx | rfl
        · exact HB.out x hx
        · omega)
      clear hS7 G7 C2 ha1
      go_wp2_with (at_builtin; refine wpList_append_own _ rfl _ _ 37 rfl (w.heap.size + 1) 2 i0 _ 1 8 Tryd.underlying37 hi0 hz0 hz1 hz2 rfl (by decide) _ _ _ rfl (HO7.out.alloc _) ⟨w6.heap.size, 0, none⟩ 1 1 [.int .i64 (a - 100)] rfl rfl ?c1 ?c2 ?c3 ?c4 ?c5 ?_)
      case c1 => exact one_cell' _ _ _ (new_one _ _ _)
      case c2 => intro u hu; simp at hu; subst hu; rfl
      case c3 => unfold maxLen; omega
      case c4 => omega
      case c5 => have := hb7.size; have := HS7.out.lt; simp; omega
      intro v' w7 hown7 hgrow7 _
      rw [intV_snoc] at hown7
      have hb8 : Below w.heap.size w w7 := (hb7.alloc hb7.size _).grown hgrow7 (by have := hb7.size; simp; omega) (fun x hx => by have := (HO7.out.lt x hx).1; omega)
      have S8 : Src w7 w.heap.size len := by
        have s1 := srcAlloc HS7.out (.cells #[.int .i64 (a - 100)] 2)
        obtain ⟨A', cap', a', s', hT, k1, k2, k3, k4, k5⟩ := s1
        refine ⟨A', cap', a', s', (hgrow7.block w.heap.size hT.lt (fun e => by have := (HO7.out.lt _ e.symm).1; omega)).trans hT, k1, k2, k3, k4, fun hp => ?_⟩
        obtain ⟨cb, co, hA, hlt, hbl, hc⟩ := k5 hp
        refine ⟨cb, co, hA, hlt, Nat.lt_of_lt_of_le hbl hgrow7.size, fun j hj => ?_⟩
        obtain ⟨z, q0, q1, hz⟩ := hc j hj
        exact ⟨z, q0, q1, (World.cell?_of_block (a := ⟨cb, co + j, none⟩) (hgrow7.block cb hbl (fun e => by have := (HO7.out.lt _ e.symm).1; omega))).trans hz⟩
      have HO8 := Lib.hid hown7
      have HS8 := Lib.hid S8
      clear hown7 hgrow7 S8
      go_wp2_with fail
      go_roundw
      case rel => exact ⟨m - 1, k + 1, v', xs ++ [a - 100], by omega, by go_num, rfl, HBN, HO8, HS8, hb8⟩
      case measure => simp [intOf]; omega
    · have z1 : decide ((0 : Int) < (m : Int)) = false := decide_eq_false (by omega)
      have z1' : decide (0 < m) = false := decide_eq_false hm
      obtain ⟨A1, c1, hv1⟩ := rowSl HO.out
      subst hv1
      have hlen1 := (RowI.of HO.out).len
      have CL := Lib.hid (cList01 A1 k c1 xs wr (by omega) (RowI.of HO.out) (fun x hx => by
        have h1 := HB.out x hx
        have h2 := numB_len x
        exact ⟨by omega, by omega, by omega⟩))
      have hsz := listT_small xs (by omega) HB.out
      generalize listT xs = tt at *
      clear hlen1
      go_wp2_with fail
      refine CL.out.mono ?_
      rintro e w6 ⟨rfl, g6⟩
      have hb6 := hbw.trans (g6.mono hbw.size)
      have S6 := HS.out.below g6
      have C6 := Lib.hid (cNext w.heap.size len 3 w6 hlen (by omega) (by omega) S6)
      clear S6
      go_wp2_with fail
      refine C6.out.mono ?_
      rintro e w7 ⟨p, hp0, hp1, rfl, S7, g7⟩
      have hb7 : Below w.heap.size w w7 := hb6.grown g7 hb6.size (fun z hz => by cases hz; omega)
      have C7 := Lib.hid (cDamage w.heap.size len tt w7 hlen (by omega) S7)
      clear S7 hp1
      by_cases hd : p = 0
      · have z2 : (p == 0) = true := by simp [hd]
        clear hd
        go_wp2_with fail
        refine C7.out.mono ?_
        rintro e w8 ⟨u, hu, rfl, _, g8⟩
        have hb8 : Below w.heap.size w w8 := hb7.grown g8 hb7.size (fun z hz => by cases hz; omega)
        go_wp2_with fail
        go_ret
        exact ⟨u, by omega, rfl, hb8⟩
      · have z2 : (p == 0) = false := by rw [beq_eq_false_iff_ne]; exact hd
        clear hd
        go_wp2_with fail
        go_ret
        exact ⟨tt, by omega, rfl, hb7⟩

theorem cLikeI_none (A A' : Option Addr) (cap cap' : Nat) (w : World) :
    Calls Tryd.prog 28 #[.slice A 0 cap, .slice A' 0 cap'] w fun e w' => e = .returned (.bool true) ∧ w = w' := by
  go_enter Tryd.func28, Tryd.ntmps28
  go_wp2
  refine wp_loop_rounds 1 ?_
  rw [rounds_succ]
  go_wp2
  go_ret
  exact ⟨rfl, rfl⟩
set_option maxHeartbeats 1000000 in
theorem cLikeI (A A' : Option Addr) (cap cap' n : Nat) (xs : List Int) (w : World) (hbig : n ≤ 1099511627776) (h : RowI w A n cap xs) (h' : RowI w A' n cap' xs) :
    Calls Tryd.prog 28 #[.slice A n cap, .slice A' n cap'] w fun e w' => e = .returned (.bool true) ∧ Below w.heap.size w w' := by
  rcases Nat.eq_zero_or_pos n with rfl | hp
  · exact (cLikeI_none A A' cap cap' w).mono fun e w' ⟨he, hw⟩ => ⟨he, hw ▸ Below.refl _ _⟩
  have HN := Lib.hid h.len
  obtain ⟨g, rfl, _, h1⟩ := h.cells hp
  obtain ⟨g', rfl, _, h2⟩ := h'.cells hp
  have H1 := Lib.hid h1
  have H2 := Lib.hid h2
  clear h1 h2 h h'
  go_enter Tryd.func28, Tryd.ntmps28
  go_wp2
  go_loopw [5] (fun i wr => ∃ j m : Nat, j ≤ n ∧ i = .int .i64 j ∧ wr = w.drewN m) (fun i _ => n - (intOf i).toNat)
  case atStart => exact ⟨0, 0, Nat.zero_le _, rfl, rfl⟩
  case round =>
    obtain ⟨j, m, hj, rfl, rfl⟩ := hrel
    by_cases hlt : j < n
    · obtain ⟨x, hx⟩ : ∃ x, xs[j]? = some x := ⟨xs[j]'(by have := HN.out; omega), List.getElem?_eq_getElem _⟩
      have c1 : w.cell? ⟨g, j, none⟩ = some (.int .i64 x) := H1.out j x hx
      have c2 : w.cell? ⟨g', j, none⟩ = some (.int .i64 x) := H2.out j x hx
      clear hx
      have e1 : (0 : Int) ≤ (j : Int) := Int.natCast_nonneg _
      have e2 : (j : Int) < (n : Int) := by omega
      have hd : (x != x) = false := by simp
      go_wp2
      go_quiet (fail)
      go_wp2
      go_roundw
      case rel => exact ⟨j + 1, _, by omega, by go_num, rfl⟩
      case measure => simp [intOf]; omega
    · go_wp2
      go_ret
      exact ⟨rfl, ⟨rfl, rfl, rfl, Nat.le_refl _, fun _ _ => rfl⟩⟩
end Go.Proofs.YtdbbolnmcbhflaaDoor
