/-
  slices.Clone at a key, slices.Compare at keys, cmp.Or, slices.DeleteFunc at a clone: with the word on the world that the sort asks for.
-/
import Derived.Test.YtjockiedganokaaDoorGr
namespace Go.Proofs.YtjockiedganokaaDoor
set_option linter.unusedVariables false
open Go.RowKit

section
variable {P : Program}
theorem run_append_gr (w : World) (t ty e : TypeId) (i : TypeInfo) (z : Value) (size bytes : Nat) (ht : P.underlying t = some (.slice e)) (hi : P.info? e = some i) (hz : i.zero = some z)
    (hsize : i.size = size) (hby : i.bytes = bytes) (hzs : z.cells.size = size) (hsz : 0 < size)
    (b : Addr) (a : Addr) (m c : Nat) (news : List Value) (hl : news.length = m * size) (hnews : ∀ j u, news[j]? = some u → w.cell? (a.add j) = some u)
    (hg : 0 < m) (h63 : m ≤ maxLen) (hbytes : m * bytes ≤ 140737488355328) :
    ∃ v' w', (Builtin.append_ #[t, t] ty #[.slice (some b) 0 0, .slice (some a) m c]).run P w = .ok v' w' ∧ w'.ownsRow w.heap.size e size v' m news ∧ Gr w w' := by
  subst hsize
  subst hby
  have hsmall : 0 + m ≤ 9223372036854775807 := by simp only [maxLen] at h63; omega
  have hge := grownCap_ge w (0 + m) 0 e
  have hcm : grownCap w (0 + m) 0 e ≤ maxLen := grownCap_le_maxLen w (0 + m) 0 e (by omega)
  have hr := run_append_grow (P := P) w t ty e i z ht hi hz b 0 0 [] (by simp) (fun j u h => by simp at h) a m c news hl hnews (by omega) (by omega) (growslice_fits (by omega) (by rw [Nat.zero_add]; exact hbytes))
  rw [Nat.zero_add] at hr hge hcm
  refine ⟨_, _, hr, ⟨hl, .inr ⟨w.heap.size, _, _, rfl, Nat.le_refl _, heap_alloc_new w.drew _, hge, hcm, ?_, ?_⟩⟩, (Gr.refl w).drew.alloc _⟩
  · simp only [Array.size_append, List.size_toArray, size_zeroCells, hzs, hl, List.length_nil, Nat.zero_add, ← Nat.add_mul]
    congr 1
    omega
  · simp only [Array.toList_append, List.nil_append]
    rw [← hl]
    exact List.take_left
theorem wpList_append_gr (w : World) {ops : Array Oper} {rest : List Oper} {o : Oper} {a : Act} {Q : Exit → Act → World → Prop}
    (hg : o.guard = none) (s x : Operand) (t : TypeId) (hop : o.op = Op.call { callee := Callee.builtin Builtin.append, args := #[s, x], argTypes := #[t, t] })
    (e : TypeId) (i : TypeInfo) (z : Value) (size bytes : Nat) (h1 : P.underlying t = some (.slice e)) (h2 : P.info? e = some i) (h3 : i.zero = some z) (h4 : i.size = size) (h5 : i.bytes = bytes) (h6 : z.cells.size = size) (h7 : 0 < size)
    (b : Addr) (hs : a.eval s = .slice (some b) 0 0)
    (ad : Addr) (m c : Nat) (news : List Value) (hx : a.eval x = .slice (some ad) m c) (hn : news.length = m * size) (hc : ∀ j u, news[j]? = some u → w.cell? (ad.add j) = some u)
    (hm : 0 < m) (b1 : m ≤ maxLen) (b2 : m * bytes ≤ 140737488355328)
    (hK : ∀ v' w', w'.ownsRow w.heap.size e size v' m news → Gr w w' → wpList P ops Q rest (a.put o.dst v') w') :
    wpList P ops Q (o :: rest) a w := by
  refine wpList_plain hg fun K hK' => ?_
  obtain ⟨v', w', hrun, r1, r2⟩ := run_append_gr (P := P) w t o.type e i z size bytes h1 h2 h3 h4 h5 h6 h7 b ad m c news hn hc hm b1 b2
  unfold Oper.wp
  simp [execOp, hop, resolve, invoke, builtin, hs, hx, hrun, Result.andThen]
  exact hK' _ _ (hK v' w' r1 r2)
end

set_option maxHeartbeats 1000000 in
theorem cCloneK (b n c : Nat) (k : List Int) (w : World) (hn : n = k.length) (hpos : 0 < n) (hbig : n ≤ 1000) (hb : b < w.heap.size) (hc : ∀ (j : Nat) x, k[j]? = some x → w.cell? ⟨b, j, none⟩ = some (.int .i64 x)) :
    Calls Tryd.prog 75 #[.slice (some ⟨b, 0, none⟩) n c] w fun e w' => ∃ v, e = .returned v ∧ w'.ownsRow w.heap.size 2 1 v n (intV k) ∧ Gr w w' := by
  obtain ⟨i0, hi0, hz0, hz1, hz2⟩ := info_parts info_i64
  have q22 : ∀ (w : World) (a : Option Addr) (n c n' c' : Nat), (binOp .eql 67 (.slice a n c) (.slice none n' c')).run Tryd.prog w = .ok (.bool a.isNone) w := fun w a n c n' c' => Lib.run_eql_slice_nil w _ _ a n c n' c' Tryd.underlying67
  have HC : Hid (∀ (j : Nat) u, (intV k)[j]? = some u → (w.alloc (.cells #[] 2)).cell? ((⟨b, 0, none⟩ : Addr).add j) = some u) := Lib.hid (fun j u hu => by
    unfold intV at hu
    rw [List.getElem?_map] at hu
    cases e : k[j]? with
    | none => rw [e] at hu; cases hu
    | some y =>
      rw [e] at hu
      have hu' : Value.int .i64 y = u := by simpa using hu
      rw [← hu', Addr.add_lit, Nat.zero_add, World.cell?_alloc_old _ _ _ (by show b ≠ w.heap.size; omega)]
      exact hc j y e)
  have hl : (intV k).length = n * 1 := by rw [intV_len]; omega
  have HL := Lib.hid hl
  clear hc hl hn
  go_enter Tryd.func75, Tryd.ntmps75
  go_wp2_with (at_builtin; refine wpList_append_gr _ rfl _ _ 67 rfl 2 i0 _ 1 8 Tryd.underlying67 hi0 hz0 hz1 hz2 rfl (by decide) ⟨w.heap.size, 0, none⟩ rfl ⟨b, 0, none⟩ n c (intV k) rfl HL.out HC.out hpos (by unfold maxLen; omega) (by omega) ?_)
  intro v' w1 hown hgr
  go_wp2_with fail
  go_ret
  exact ⟨v', rfl, rowBase hown (by simp), ((Gr.refl w).alloc _).trans hgr⟩

theorem cNaN (x : Int) (w : World) : Calls Tryd.prog 138 #[.int .i64 x] w fun e w' => e = .returned (.bool false) ∧ w = w' := by
  have hd : (x != x) = false := by simp
  go_enter Tryd.func138, Tryd.ntmps138
  go_wp2
  go_ret
  exact ⟨rfl, rfl⟩
def cmpI (x y : Int) : Int := if x < y then -1 else if y < x then 1 else 0
theorem cCmp (x y : Int) (w : World) : Calls Tryd.prog 109 #[.int .i64 x, .int .i64 y] w fun e w' => e = .returned (.int .i64 (cmpI x y)) ∧ w = w' := by
  unfold cmpI
  by_cases h1 : x < y
  · rw [if_pos h1]
    go_enter Tryd.func109, Tryd.ntmps109
    go_wp2_with (go_at_call 138; refine (cNaN _ _).mono ?_; rintro e w' ⟨rfl, rfl⟩)
    go_ret
    exact ⟨rfl, rfl⟩
  rw [if_neg h1]
  by_cases h2 : y < x
  · rw [if_pos h2]
    go_enter Tryd.func109, Tryd.ntmps109
    go_wp2_with (go_at_call 138; refine (cNaN _ _).mono ?_; rintro e w' ⟨rfl, rfl⟩)
    go_ret
    exact ⟨rfl, rfl⟩
  · rw [if_neg h2]
    go_enter Tryd.func109, Tryd.ntmps109
    go_wp2_with (go_at_call 138; refine (cNaN _ _).mono ?_; rintro e w' ⟨rfl, rfl⟩)
    go_ret
    exact ⟨rfl, rfl⟩

set_option maxHeartbeats 1000000 in
set_option maxRecDepth 100000 in
/-- slices.Compare at two slices of numbers. -/
theorem cCmpK (A A' : Option Addr) (n n' c c' B B' : Nat) (k k' : List Int) (w : World) (hn : n ≤ 1000) (hn' : n' ≤ 1000) (h : NumAt w B A n k) (h' : NumAt w B' A' n' k') :
    Calls Tryd.prog 79 #[.slice A n c, .slice A' n' c'] w fun e w' => e = .returned (.int .i64 (cmpL k k')) ∧ w = w' := by
  have H := Lib.hid h
  have H' := Lib.hid h'
  have HN := Lib.hid h.1
  have HN' := Lib.hid h'.1
  clear h h'
  go_enter Tryd.func79, Tryd.ntmps79
  go_wp2
  go_loop [11] (fun i => ∃ j : Nat, j ≤ n ∧ j ≤ n' ∧ i = .int .i64 j ∧ Hid (cmpL k k' = cmpL (k.drop j) (k'.drop j))) (fun i => n - (intOf i).toNat)
  case atStart => exact ⟨0, Nat.zero_le _, Nat.zero_le _, rfl, Lib.hid rfl⟩
  case round =>
    obtain ⟨j, hj, hj', rfl, HA⟩ := hrel
    by_cases hlt : j < n
    · obtain ⟨x, hx⟩ : ∃ x, k[j]? = some x := ⟨k[j]'(by have := HN.out; omega), List.getElem?_eq_getElem _⟩
      obtain ⟨b, o, rfl, _, hcx⟩ := H.out.row hx
      by_cases hlt' : j < n'
      · obtain ⟨y, hy⟩ : ∃ y, k'[j]? = some y := ⟨k'[j]'(by have := HN'.out; omega), List.getElem?_eq_getElem _⟩
        obtain ⟨b', o', rfl, _, hcy⟩ := H'.out.row hy
        have hst := cmpL_step k k' j x y hx hy
        have CC := Lib.hid (fun W => cCmp x y W)
        have hv : cmpI x y = -1 ∧ x < y ∨ cmpI x y = 1 ∧ y < x ∧ ¬ x < y ∨ cmpI x y = 0 ∧ ¬ x < y ∧ ¬ y < x := by
          unfold cmpI
          by_cases h1 : x < y
          · exact .inl ⟨by rw [if_pos h1], h1⟩
          · by_cases h2 : y < x
            · exact .inr (.inl ⟨by rw [if_neg h1, if_pos h2], h2, h1⟩)
            · exact .inr (.inr ⟨by rw [if_neg h1, if_neg h2], h1, h2⟩)
        clear hx hy
        rcases hv with ⟨hv, h1⟩ | ⟨hv, h1, h2⟩ | ⟨hv, h1, h2⟩
        · rw [if_pos h1] at hst
          rw [hv] at CC
          have HR := Lib.hid (HA.out.trans hst)
          clear hst hv h1
          go_wp2_with (go_at_call 109; refine (CC.out _).mono ?_; rintro e w' ⟨rfl, rfl⟩)
          go_ret
          exact ⟨by rw [HR.out]; rfl, rfl⟩
        · rw [if_neg h2, if_pos h1] at hst
          rw [hv] at CC
          have HR := Lib.hid (HA.out.trans hst)
          clear hst hv h1 h2
          go_wp2_with (go_at_call 109; refine (CC.out _).mono ?_; rintro e w' ⟨rfl, rfl⟩)
          go_ret
          exact ⟨by rw [HR.out]; rfl, rfl⟩
        · rw [if_neg h1, if_neg h2] at hst
          rw [hv] at CC
          have HR := Lib.hid (HA.out.trans hst)
          clear hst hv h1 h2
          go_wp2_with (go_at_call 109; refine (CC.out _).mono ?_; rintro e w' ⟨rfl, rfl⟩)
          go_round
          case rel => exact ⟨j + 1, by omega, by omega, by go_num, HR⟩
          case measure => simp [intOf]; omega
      · have hend := cmpL_end k k' j (.inr (by have := HN'.out; omega)) (by have := HN.out; omega) (by have := HN'.out; omega)
        rw [if_neg (by have := HN.out; have := HN'.out; omega), if_pos (by have := HN.out; have := HN'.out; omega)] at hend
        have HR := Lib.hid (HA.out.trans hend)
        have hjn : n' ≤ j := by omega
        clear hend hx
        go_wp2
        go_ret
        exact ⟨by rw [HR.out]; rfl, rfl⟩
    · have hend := cmpL_end k k' j (.inl (by have := HN.out; omega)) (by have := HN.out; omega) (by have := HN'.out; omega)
      by_cases hnn : n < n'
      · rw [if_pos (by have := HN.out; have := HN'.out; omega)] at hend
        have HR := Lib.hid (HA.out.trans hend)
        clear hend
        go_wp2
        go_ret
        exact ⟨by rw [HR.out]; rfl, rfl⟩
      · rw [if_neg (by have := HN.out; have := HN'.out; omega), if_neg (by have := HN.out; have := HN'.out; omega)] at hend
        have HR := Lib.hid (HA.out.trans hend)
        clear hend
        go_wp2
        go_ret
        exact ⟨by rw [HR.out]; rfl, rfl⟩

theorem cOr (g : Nat) (x y : Int) (w : World) (h0 : w.cell? ⟨g, 0, none⟩ = some (.int .i64 x)) (h1 : w.cell? ⟨g, 1, none⟩ = some (.int .i64 y)) :
    Calls Tryd.prog 78 #[.slice (some ⟨g, 0, none⟩) 2 2] w fun e w' => e = .returned (.int .i64 (orI x y)) ∧ w = w' := by
  by_cases hx : x = 0
  · have HV := Lib.hid (show orI x y = y from by unfold orI; rw [if_pos hx])
    have hd : (x != 0) = false := by simp [hx]
    by_cases hy : y = 0
    · have hd2 : (y != 0) = false := by simp [hy]
      have HY := Lib.hid hy
      clear hx hy
      go_enter Tryd.func78, Tryd.ntmps78
      go_wp2
      refine wp_loop_rounds 3 ?_
      rw [rounds_succ]
      go_wp2
      rw [rounds_succ]
      go_wp2
      rw [rounds_succ]
      go_wp2
      go_ret
      exact ⟨by rw [HV.out, HY.out]; rfl, rfl⟩
    · have hd2 : (y != 0) = true := by simp [hy]
      clear hx hy
      go_enter Tryd.func78, Tryd.ntmps78
      go_wp2
      refine wp_loop_rounds 3 ?_
      rw [rounds_succ]
      go_wp2
      rw [rounds_succ]
      go_wp2
      go_ret
      exact ⟨by rw [HV.out]; rfl, rfl⟩
  · have HV := Lib.hid (show orI x y = x from by unfold orI; rw [if_neg hx])
    have hd : (x != 0) = true := by simp [hx]
    clear hx
    go_enter Tryd.func78, Tryd.ntmps78
    go_wp2
    refine wp_loop_rounds 3 ?_
    rw [rounds_succ]
    go_wp2
    go_ret
    exact ⟨by rw [HV.out]; rfl, rfl⟩
end Go.Proofs.YtjockiedganokaaDoor
