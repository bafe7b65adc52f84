/-
  The contracts of slices.ContainsFunc at impl.IsStable's closure, and of slices.Equal at numbers.
-/
import Derived.Test.YtnfdbpfegmodcaaSgn
import Derived.Test.YtnfdbpfegmodcaaRomanPlain
namespace Go.Proofs.Ytnfdbpfegmodcaa
set_option linter.unusedVariables false
open Go.RowKit

/-- The rule with an index has an empty text. -/
def emptyAt (rs : List Ru) (i : Int) : Bool := decide ((romAt rs i).size = 0)
def anyE (rs : List Ru) (zs : List Int) : Bool := zs.any (emptyAt rs)
theorem anyE_step {rs : List Ru} {zs : List Int} {k : Nat} {i : Int} (h : zs[k]? = some i) (ha : anyE rs (zs.take k) = false) (hb : emptyAt rs i = false) : anyE rs (zs.take (k + 1)) = false := by
  rw [takeK_snoc h]; unfold anyE at *; rw [List.any_append, ha]; simp [hb]
theorem anyE_stop {rs : List Ru} {zs : List Int} {k : Nat} {i : Int} (h : zs[k]? = some i) (hb : emptyAt rs i = true) : anyE rs zs = true := by
  unfold anyE; rw [List.any_eq_true]; exact ⟨i, List.mem_of_getElem? h, hb⟩
theorem anyE_all {rs : List Ru} {zs : List Int} {k : Nat} (h : zs.length ≤ k) : anyE rs (zs.take k) = anyE rs zs := by rw [List.take_of_length_le h]

theorem cEmptyFn (A : Option Addr) (n c q pb : Nat) (rs : List Ru) (w : World) (hb : n ≤ maxLen) (hq : q < n) (h : RulesAt w w.heap.size A n rs) (hp : w.cell? ⟨pb, 0, none⟩ = some (.slice A n c)) :
    Calls Try.prog 101 #[.int .i64 (q : Int), .pointer (some ⟨pb, 0, none⟩)] w fun e w' => e = .returned (.bool (emptyAt rs (q : Int))) ∧ w = w' := by
  unfold maxLen at hb
  obtain ⟨r, hr⟩ : ∃ r, rs[q]? = some r := ⟨rs[q]'(by have := h.1; omega), List.getElem?_eq_getElem _⟩
  obtain ⟨b, o, rfl, hbl, A1, n1, c1, k0, k1, k2, k3, k4⟩ := h.row hr
  have hd : (r.2.toList == ([] : List UInt8)) = emptyAt rs (q : Int) := by rw [toList_empty]; unfold emptyAt; rw [romAt_at hr]
  have q0 : (0 : Int) ≤ (q : Int) := by omega
  have q1 : (q : Int) < (n : Int) := by omega
  clear h hr k2 k3 k4
  cases hv : emptyAt rs (q : Int)
  all_goals
    rw [hv] at hd
    clear hv
    go_enter Try.func101, Try.ntmps101
    go_wp2
    go_ret
    exact ⟨rfl, rfl⟩

theorem RulesAt.grow {w : World} {A : Option Addr} {n : Nat} {rs : List Ru} (h : RulesAt w w.heap.size A n rs) {w' : World} (hb : Below w.heap.size w w') : RulesAt w' w'.heap.size A n rs := (h.below hb (Nat.le_refl _)).more hb.size

/-- The first index with an empty text, or -1. -/
def IdxPost (rs : List Ru) (zs : List Int) (w : World) (e : Ending) (w' : World) : Prop :=
  w = w' ∧ ((anyE rs zs = true ∧ ∃ k : Nat, e = .returned (.int .i64 (k : Int))) ∨ (anyE rs zs = false ∧ e = .returned (.int .i64 (-1))))
set_option maxHeartbeats 1000000 in
set_option maxRecDepth 100000 in
theorem cIdxE (A A' : Option Addr) (n n' c c' pb : Nat) (rs : List Ru) (zs : List Int) (w : World) (hb : n ≤ maxLen) (hb' : n' ≤ maxLen) (hi : idxB n zs = true) (h : RulesAt w w.heap.size A n rs) (h' : NumAt w w.heap.size A' n' zs) (hp : w.cell? ⟨pb, 0, none⟩ = some (.slice A n c)) :
    Calls Try.prog 133 #[.slice A' n' c', .func (.func 101) #[] #[.pointer (some ⟨pb, 0, none⟩)]] w (IdxPost rs zs w) := by
  have C := Lib.hid (fun q hq => cEmptyFn A n c q pb rs w hb hq h hp)
  unfold maxLen at hb hb'
  have HL' := Lib.hid h'.1
  have H' := Lib.hid h'
  have HI := Lib.hid hi
  clear h h' hi hp
  go_enter Try.func133, Try.ntmps133
  go_wp2
  go_loop [8] (fun i => ∃ k : Nat, k ≤ n' ∧ i = .int .i64 k ∧ Hid (anyE rs (zs.take k) = false)) (fun i => n' - (intOf i).toNat)
  case atStart => exact ⟨0, Nat.zero_le _, rfl, Lib.hid rfl⟩
  case round =>
    obtain ⟨k, hk, rfl, HA⟩ := hrel
    by_cases hlt : k < n'
    · obtain ⟨i, hi⟩ : ∃ i, zs[k]? = some i := ⟨zs[k]'(by have := HL'.out; omega), List.getElem?_eq_getElem _⟩
      obtain ⟨b', o', rfl, hb', hci⟩ := H'.out.row hi
      obtain ⟨q, rfl, hq⟩ := idx_mem HI.out (List.mem_of_getElem? hi)
      have CC := Lib.hid (C.out q hq)
      have HX := Lib.hid hi
      clear hi
      cases hv : emptyAt rs (q : Int)
      · rw [hv] at CC
        have HA2 := Lib.hid (anyE_step HX.out HA.out hv)
        clear hv
        go_wp2_with (go_at_call 101; refine CC.out.mono ?_; rintro e w' ⟨rfl, rfl⟩)
        go_round
        case rel => exact ⟨k + 1, by omega, by go_num, HA2⟩
        case measure => simp [intOf]; omega
      · rw [hv] at CC
        have HA2 := Lib.hid (anyE_stop HX.out hv)
        clear hv
        go_wp2_with (go_at_call 101; refine CC.out.mono ?_; rintro e w' ⟨rfl, rfl⟩)
        go_ret
        exact ⟨rfl, .inl ⟨HA2.out, k, rfl⟩⟩
    · have HA2 : Hid (anyE rs zs = false) := Lib.hid (by rw [← anyE_all (k := k) (by have := HL'.out; omega)]; exact HA.out)
      go_wp2
      go_ret
      exact ⟨rfl, .inr ⟨HA2.out, rfl⟩⟩
theorem cContE (A A' : Option Addr) (n n' c c' pb : Nat) (rs : List Ru) (zs : List Int) (w : World) (hb : n ≤ maxLen) (hb' : n' ≤ maxLen) (hi : idxB n zs = true) (h : RulesAt w w.heap.size A n rs) (h' : NumAt w w.heap.size A' n' zs) (hp : w.cell? ⟨pb, 0, none⟩ = some (.slice A n c)) :
    Calls Try.prog 100 #[.slice A' n' c', .func (.func 101) #[] #[.pointer (some ⟨pb, 0, none⟩)]] w fun e w' => e = .returned (.bool (anyE rs zs)) ∧ w = w' := by
  have C := Lib.hid (cIdxE A A' n n' c c' pb rs zs w hb hb' hi h h' hp)
  clear h h' hi hp
  go_enter Try.func100, Try.ntmps100
  go_wp2_with fail
  refine C.out.mono ?_
  rintro e w' ⟨rfl, hc⟩
  rcases hc with ⟨ha, k, rfl⟩ | ⟨ha, rfl⟩
  · have HA := Lib.hid ha
    clear ha
    have hk : (0 : Int) ≤ (k : Int) := by omega
    go_wp2_with fail
    go_ret
    exact ⟨ret_bool HA.out.symm, rfl⟩
  · have HA := Lib.hid ha
    clear ha
    go_wp2_with fail
    go_ret
    exact ⟨ret_bool HA.out.symm, rfl⟩

set_option maxHeartbeats 1000000 in
set_option maxRecDepth 100000 in
theorem cEqualI (A A' : Option Addr) (n n' c c' B B' : Nat) (xs ys : List Int) (w : World) (hb : n ≤ maxLen) (hb' : n' ≤ maxLen) (h1 : NumAt w B A n xs) (h2 : NumAt w B' A' n' ys) :
    Calls Try.prog 102 #[.slice A n c, .slice A' n' c'] w fun e w' => e = .returned (.bool (decide (xs = ys))) ∧ ∃ m, w' = w.drewN m := by
  unfold maxLen at hb hb'
  by_cases hl : n = n'
  · subst hl
    have HL := Lib.hid h1.1
    have HL' := Lib.hid h2.1
    have H1 := Lib.hid h1
    have H2 := Lib.hid h2
    clear h1 h2
    go_enter Try.func102, Try.ntmps102
    go_wp2
    go_loopw [13] (fun i wr => ∃ j m : Nat, j ≤ n ∧ i = .int .i64 j ∧ wr = w.drewN m ∧ Hid (xs.take j = ys.take j)) (fun i _ => n - (intOf i).toNat)
    case atStart => exact ⟨0, 0, Nat.zero_le _, rfl, rfl, Lib.hid (by simp)⟩
    case round =>
      obtain ⟨j, m, hj, rfl, rfl, HT⟩ := hrel
      by_cases hlt : j < n
      · obtain ⟨x, hx⟩ : ∃ x, xs[j]? = some x := ⟨xs[j]'(by have := HL.out; omega), List.getElem?_eq_getElem _⟩
        obtain ⟨y, hy⟩ : ∃ y, ys[j]? = some y := ⟨ys[j]'(by have := HL'.out; omega), List.getElem?_eq_getElem _⟩
        obtain ⟨b, o, rfl, _, c1⟩ := H1.out.row hx
        obtain ⟨b', o', rfl, _, c2⟩ := H2.out.row hy
        have HX := Lib.hid hx
        have HY := Lib.hid hy
        clear hx hy
        have e1 : (0 : Int) ≤ (j : Int) := Int.natCast_nonneg _
        have e2 : (j : Int) < (n : Int) := by omega
        by_cases he : x = y
        · have hd : (x != y) = false := by simp [he]
          have HT2 : Hid (xs.take (j + 1) = ys.take (j + 1)) := Lib.hid (by rw [takeK_snoc HX.out, takeK_snoc HY.out, HT.out, he])
          clear he
          go_wp2
          go_quiet (fail)
          go_wp2
          go_roundw
          case rel => exact ⟨j + 1, _, by omega, by go_num, rfl, HT2⟩
          case measure => simp [intOf]; omega
        · have hd : (x != y) = true := by simpa using he
          have HN := Lib.hid (take_differs HX.out HY.out he)
          clear he
          go_wp2
          go_quiet (fail)
          go_wp2
          go_ret
          exact ⟨ret_bool (decide_eq_false HN.out).symm, _, World.drewN_drewN _ _ _⟩
      · have HN : Hid (xs = ys) := Lib.hid (by
          have := HT.out
          rwa [List.take_of_length_le (by have := HL.out; omega), List.take_of_length_le (by have := HL'.out; omega)] at this)
        go_wp2
        go_ret
        exact ⟨ret_bool (decide_eq_true HN.out).symm, _, rfl⟩
  · have HN : Hid (xs ≠ ys) := Lib.hid (by rintro rfl; exact hl (h1.1.trans h2.1.symm))
    have hd : ((n : Int) != (n' : Int)) = true := by simp; omega
    have hd2 : (n != n') = true := by simpa using hl
    go_enter Try.func102, Try.ntmps102
    go_wp2
    go_ret
    exact ⟨ret_bool (decide_eq_false HN.out).symm, 0, rfl⟩
end Go.Proofs.Ytnfdbpfegmodcaa
