/-
  The mathematics of the law of official years, what holds while its dice rolls, and likeSpans.
-/
import Derived.Test.YthlilfdndpnbkaaGreatDoorMu18
import Derived.Test.YthlilfdndpnbkaaGreatDoorNmMath
import Derived.Laws.StructEq
import Derived.Test.YthlilfdndpnbkaaGreatDoorMu2
namespace Go.Proofs.YthlilfdndpnbkaaGreatDoor
section
set_option linter.unusedVariables false
open Go.RowKit

theorem chain_of_sepZ {xs : List Spn} (h : Sep xs) : ∀ n, n ≤ xs.length → chainB xs n = true
  | 0, _ => rfl
  | n + 1, hn => by
    have hs := (sep_iff xs).1 h
    refine chainB_step (chain_of_sepZ h n (by omega)) ?_
    have hp : xs[n]? = some (xs[n]'(by omega)) := List.getElem?_eq_getElem _
    have hb := hs.1 _ (List.mem_of_getElem? hp)
    cases n with
    | zero => rw [stepB_zero hp]; exact spB_mk hb.1 hb.2.1 hb.2.2
    | succ k =>
      have hq : xs[k]? = some (xs[k]'(by omega)) := List.getElem?_eq_getElem _
      have hg := (List.pairwise_iff_getElem.1 hs.2) k (k + 1) (by omega) (by omega) (by omega)
      rw [stepB_succ hp hq, spB_mk hb.1 hb.2.1 hb.2.2, decide_eq_true hg]; rfl
theorem years_of_sepZ {xs : List Spn} (h : Sep xs) (hl : xs.length ≤ 12) : yearsB xs = true := by
  unfold yearsB; rw [decide_eq_true hl, chain_of_sepZ h _ (Nat.le_refl _)]; rfl
theorem ins_spans (p : Spn) : ∀ ys : List Spn, ys.Pairwise (fun a b => a.1 ≤ b.1) → ∃ zs : List Spn, zs.Perm (p :: ys) ∧ zs.Pairwise (fun a b => a.1 ≤ b.1)
  | [], _ => ⟨[p], List.Perm.refl _, by simp⟩
  | q :: ys, h => by
    rw [List.pairwise_cons] at h
    by_cases hpq : p.1 ≤ q.1
    · refine ⟨p :: q :: ys, List.Perm.refl _, ?_⟩
      rw [List.pairwise_cons]
      refine ⟨fun a ha => ?_, List.pairwise_cons.2 h⟩
      rcases List.mem_cons.1 ha with rfl | ha
      · exact hpq
      · have := h.1 a ha; omega
    · obtain ⟨zs, h1, h2⟩ := ins_spans p ys h.2
      refine ⟨q :: zs, (List.Perm.cons q h1).trans (List.Perm.swap p q ys), ?_⟩
      rw [List.pairwise_cons]
      refine ⟨fun a ha => ?_, h2⟩
      rcases List.mem_cons.1 (h1.mem_iff.1 ha) with rfl | ha
      · omega
      · exact h.1 a ha
theorem sorted_spans : ∀ us : List Spn, ∃ ys : List Spn, ys.Perm us ∧ ys.Pairwise (fun a b => a.1 ≤ b.1)
  | [] => ⟨[], List.Perm.refl _, List.Pairwise.nil⟩
  | p :: us => by
    obtain ⟨ys, h1, h2⟩ := sorted_spans us
    obtain ⟨zs, h3, h4⟩ := ins_spans p ys h2
    exact ⟨zs, h3.trans (List.Perm.cons p h1), h4⟩
theorem rising_of {ys : List Spn} (h : ys.Pairwise (fun a b => a.1 ≤ b.1)) : Rising ys := fun i j p q hij hp hq => by
  obtain ⟨h1, e1⟩ := List.getElem?_eq_some_iff.1 hp
  obtain ⟨h2, e2⟩ := List.getElem?_eq_some_iff.1 hq
  have := (List.pairwise_iff_getElem.1 h) i j h1 h2 hij
  rw [e1, e2] at this; exact this
theorem joined_all {ys : List Spn} (hv : Valid ys) (hr : Rising ys) : ∀ k, k ≤ ys.length → ∃ zs, Joined ys k zs
  | 0, _ => ⟨[], Joined.start ys⟩
  | k + 1, hk => by
    obtain ⟨zs, hz⟩ := joined_all hv hr k (by omega)
    have hs : ys[k]? = some (ys[k]'(by omega)) := List.getElem?_eq_getElem _
    rcases nil_or_snoc zs with rfl | ⟨ws, q, rfl⟩
    · exact ⟨_, hz.add hv hs (fun ws q e => by simp at e)⟩
    · by_cases ht : (ys[k]'(by omega)).1 ≤ q.2 + 1
      · exact ⟨_, hz.widen hr hv hs ht⟩
      · refine ⟨_, hz.add hv hs (fun ws' q' e => ?_)⟩
        have := List.append_inj' e rfl
        injection this.2 with e2
        rw [← e2]; omega
theorem unZ_facts {us : List Spn} (hv : Valid us) (hl : us.length ≤ 12) : yearsB (unZ us) = true ∧ ∀ z, memS z (unZ us) ↔ memS z us := by
  obtain ⟨ys, hp, hs⟩ := sorted_spans us
  have hvy : Valid ys := fun p h => hv p (hp.mem_iff.1 h)
  obtain ⟨zs, hz⟩ := joined_all hvy (rising_of hs) ys.length (Nat.le_refl _)
  have hyl := hp.length_eq
  have h4 := hz.2.2.2
  have e : zs = unZ us := unZ_eq (by omega) (years_upto hv hp hz)
  rw [← e]
  refine ⟨years_of_sepZ hz.1 (by omega), fun z => ?_⟩
  rw [hz.2.1 z, List.take_length, perm_mem hp]
theorem oyL_mem {xs : List Nm} {l : ByteArray} {y : Int} : memS y (oyL xs l) ↔ ∃ x ∈ xs, ouB l y x = true := by
  unfold oyL memS ouB usB
  constructor
  · rintro ⟨p, hp, h1, h2⟩
    obtain ⟨x, hx, rfl⟩ := List.mem_map.1 hp
    obtain ⟨hx, ho⟩ := List.mem_filter.1 hx
    exact ⟨x, hx, by rw [ho]; simp; exact ⟨h1, h2⟩⟩
  · rintro ⟨x, hx, h⟩
    rw [Bool.and_eq_true, Bool.and_eq_true, decide_eq_true_eq, decide_eq_true_eq] at h
    exact ⟨(x.f, x.u), List.mem_map.2 ⟨x, List.mem_filter.2 ⟨hx, h.1⟩, rfl⟩, h.2.1, h.2.2⟩
/-- A year is an official one just if there is an official name in it. -/
theorem oy_has {xs : List Nm} {l : ByteArray} {y : Int} (h : oyC xs l = 0) (h0 : -3000 ≤ y) (h1 : y ≤ 3000) :
    yearsB (oyZ xs l) = true ∧ ((hasB (oyZ xs l) y = true ∧ offC xs l y = 0) ∨ (hasB (oyZ xs l) y = false ∧ offC xs l y = 4)) := by
  cases hb : namesB xs && langB l
  · rw [oyC_no hb] at h; cases h
  have hn : namesB xs = true ∧ langB l = true := by simpa using hb
  obtain ⟨hl12, hg⟩ := names_of hn.1
  obtain ⟨k1, k2⟩ := unZ_facts (oy_valid (l := l) hg) (Nat.le_trans (oy_len xs l) hl12)
  rw [oyZ_ok hb]
  refine ⟨k1, ?_⟩
  have hy : yrB y = true := by unfold yrB; simp; omega
  have hq : qC xs [l] y = 0 := by unfold qC; rw [hn.1, hy]; simp [hn.2]
  have ho : offC xs l y = match offF xs l y with | some _ => 0 | none => 4 := by unfold offC; rw [if_pos hq]; cases offF xs l y <;> rfl
  cases hf : offF xs l y with
  | some k =>
    left
    rw [hf] at ho
    obtain ⟨x, hx, hp, _⟩ := fst_some hf
    exact ⟨inB_mem.2 ((k2 y).2 (oyL_mem.2 ⟨x, List.mem_of_getElem? hx, hp⟩)), ho⟩
  | none =>
    right
    rw [hf] at ho
    refine ⟨?_, ho⟩
    rw [Bool.eq_false_iff]
    intro hh
    obtain ⟨x, hx, hp⟩ := oyL_mem.1 ((k2 y).1 (inB_mem.1 hh))
    obtain ⟨j, hj, rfl⟩ := List.mem_iff_getElem.1 hx
    rw [fst_none hf j _ (List.getElem?_eq_getElem hj)] at hp; cases hp
theorem own_len2 {w : World} {R n c : Nat} {A : Option Addr} {t : TypeId} {zs : List Spn} (h : w.ownsRow R t 2 (.slice A n c) n (spanV zs)) : n = zs.length := by
  have := h.1; rw [spanV_len] at this; omega
theorem own_capZ {w : World} {R n c s : Nat} {A : Option Addr} {t : TypeId} {xs : List Value} (h : w.ownsRow R t s (.slice A n c) n xs) : n ≤ c := by
  rcases h.2 with ⟨hv, h0⟩ | ⟨g, cap, cur, hv, _, _, h3, _⟩
  · omega
  · injection hv with e1 e2 e3
    rw [e3]; exact h3
theorem SpanAt.diceZ {w w' : World} {D n : Nat} {A : Option Addr} {xs : List Spn} (h : SpanAt w D A n xs) (hg : w.grownBy w' (some D)) : SpanAt w' D A n xs :=
  ⟨h.1, fun k p hp => by
    obtain ⟨b, o, hA, hlt, h1, h2⟩ := h.2 k p hp
    exact ⟨b, o, hA, hlt, hg.cell h1 (by simp; omega), hg.cell h2 (by simp; omega)⟩⟩
theorem NmAt.diceZ {w w' : World} {D n : Nat} {A : Option Addr} {xs : List Nm} (h : NmAt w D A n xs) (hg : w.grownBy w' (some D)) : NmAt w' D A n xs :=
  ⟨h.1, fun hp => by
    obtain ⟨b, o, hA, hlt, h1⟩ := h.2 hp
    refine ⟨b, o, hA, hlt, fun j x hx => ?_⟩
    obtain ⟨c0, c1, c2, c3, c4⟩ := h1 j x hx
    exact ⟨hg.cell c0 (by simp; omega), hg.cell c1 (by simp; omega), hg.cell c2 (by simp; omega), hg.cell c3 (by simp; omega), hg.cell c4 (by simp; omega)⟩⟩
/-- What holds while the dice at block D rolls: the years and the names below it, its own cells, the code. -/
structure RollO (w0 : World) (D : Nat) (A : Option Addr) (len cap : Nat) (A1 A2 : Option Addr) (n1 n2 : Nat) (os : List Spn) (xs : List Nm) (w : World) : Prop where
  s1 : SpanAt w D A1 n1 os
  s2 : NmAt w D A2 n2 xs
  dice : ∃ (j : Nat) (y : Int), j ≤ len ∧ TabAt w D 115 (diceCells A len cap j y)
  code : CodeAt w D A len
  below : Below w0.heap.size w0 w
  le : w0.heap.size ≤ D
theorem RollO.lt {w0 w : World} {D : Nat} {A A1 A2 : Option Addr} {len cap n1 n2 : Nat} {os : List Spn} {xs : List Nm} (h : RollO w0 D A len cap A1 A2 n1 n2 os xs w) : D < w.heap.size := by
  obtain ⟨j, y, _, hT⟩ := h.dice; exact hT.lt
theorem RollO.after {w0 w w' : World} {D : Nat} {A A1 A2 : Option Addr} {len cap n1 n2 : Nat} {os : List Spn} {xs : List Nm} (h : RollO w0 D A len cap A1 A2 n1 n2 os xs w) (hb : Below w.heap.size w w') : RollO w0 D A len cap A1 A2 n1 n2 os xs w' := by
  have hl := h.lt
  obtain ⟨j, y, hj, hT⟩ := h.dice
  have hbD : Below D w w' := hb.mono (by omega)
  exact ⟨h.s1.below hbD, h.s2.below hbD (Nat.le_refl _), ⟨j, y, hj, (hb.block D hl).trans hT⟩, fun hp => by
    obtain ⟨b, o, hA, hne, hlt, hc⟩ := h.code hp
    refine ⟨b, o, hA, hne, Nat.lt_of_lt_of_le hlt hb.size, fun j hj => ?_⟩
    obtain ⟨z, h0, h1, h2⟩ := hc j hj
    exact ⟨z, h0, h1, (hb.cell (p := ⟨b, o + j, none⟩) hlt).trans h2⟩, h.below.trans (hb.mono h.below.size), h.le⟩
theorem RollO.rolled {w0 w w' : World} {D : Nat} {A A1 A2 : Option Addr} {len cap n1 n2 : Nat} {os : List Spn} {xs : List Nm} (h : RollO w0 D A len cap A1 A2 n1 n2 os xs w) (hg : w.grownBy w' (some D)) {j : Nat} {y : Int} (hj : j ≤ len) (hT : TabAt w' D 115 (diceCells A len cap j y)) : RollO w0 D A len cap A1 A2 n1 n2 os xs w' :=
  ⟨h.s1.diceZ hg, h.s2.diceZ hg, ⟨j, y, hj, hT⟩, h.code.kept hg, h.below.grown hg h.below.size (fun z hz => by cases hz; exact h.le), h.le⟩
theorem len2Z9 {α : Type} {l : List α} (h : l.length = 2) : ∃ a b, l = [a, b] := by
  match l, h with
  | [a, b], _ => exact ⟨a, b, rfl⟩
theorem run_neSpZ (a b c d : Int) (W : World) : (binOp .neq 25 (.agg #[.int .i64 a, .int .i64 b]) (.agg #[.int .i64 c, .int .i64 d])).run Tryz.prog W = .ok (.bool (!(a == c && b == d))) W := by
  rw [run_neq_struct, run_equalIn_agg W 9999 _ _ _ under_span stood_span]
  obtain ⟨f0, f1, hf, h0, h1⟩ : ∃ f0 f1 : Field, ((Tryz.prog).fieldsOf 25).toList = [f0, f1] ∧ ((f0.name == "_") = false ∧ f0.type = 2 ∧ f0.offset = 0) ∧ (f1.name == "_") = false ∧ f1.type = 2 ∧ f1.offset = 1 := by
    have h := fields_span
    generalize ((Tryz.prog).fieldsOf 25).toList = l at h
    obtain ⟨f0, f1, rfl⟩ := len2Z9 (by simpa using congrArg List.length h)
    simp only [List.map_cons, List.map_nil, List.cons.injEq, Prod.mk.injEq, and_true] at h
    exact ⟨f0, f1, rfl, h.1, h.2⟩
  obtain ⟨n0, t0, o0⟩ := h0
  obtain ⟨n1, t1, o1⟩ := h1
  rw [hf]
  have n0' : f0.name ≠ "_" := by simpa using n0
  have n1' : f1.name ≠ "_" := by simpa using n1
  have hi := Tryz.underlying2
  simp [Op.eqFields, n0', n1', t0, o0, t1, o1, go_sem, hi]
  by_cases h1 : a = c <;> by_cases h2 : b = d <;> simp [h1, h2]
theorem run_neSameZ (a b : Int) (W : World) : (binOp .neq 25 (.agg #[.int .i64 a, .int .i64 b]) (.agg #[.int .i64 a, .int .i64 b])).run Tryz.prog W = .ok (.bool false) W := by
  rw [run_neSpZ, beq_self_eq_true, beq_self_eq_true]; rfl
set_option maxHeartbeats 1000000 in
theorem cLikeSp (A A' : Option Addr) (n cap cap' : Nat) (xs : List Spn) (w : World) (hbig : n ≤ 1099511627776) (h1 : SpanAt w w.heap.size A n xs) (h2 : SpanAt w w.heap.size A' n xs) :
    Calls Tryz.prog 37 #[.slice A n cap, .slice A' n cap'] w fun e w' => e = .returned (.bool true) ∧ Below w.heap.size w w' := by
  have H1 := Lib.hid h1
  have H2 := Lib.hid h2
  have hgd := guard_span
  clear h1 h2
  go_enter Tryz.func37, Tryz.ntmps37
  go_wp2
  go_loopw [5] (fun i wr => ∃ j m : Nat, j ≤ n ∧ i = .int .i64 j ∧ wr = w.drewN m) (fun i _ => n - (intOf i).toNat)
  case atStart => exact ⟨0, 0, Nat.zero_le _, rfl, rfl⟩
  case round =>
    obtain ⟨j, m, hj, rfl, rfl⟩ := hrel
    by_cases hlt : j < n
    · obtain ⟨p, hp⟩ : ∃ p, xs[j]? = some p := ⟨xs[j]'(by have := H1.out.1; omega), List.getElem?_eq_getElem _⟩
      obtain ⟨b, o, rfl, hbl, c0, c1⟩ := H1.out.2 j p hp
      obtain ⟨b', o', rfl, hbl', d0, d1⟩ := H2.out.2 j p hp
      clear hp
      obtain ⟨x, y⟩ := p
      have hne := run_neSameZ x y
      have e1 : (0 : Int) ≤ (j : Int) := Int.natCast_nonneg _
      have e2 : (j : Int) < (n : Int) := by omega
      go_wp2
      go_quiet (fail)
      go_wp2
      go_roundw
      case rel => exact ⟨j + 1, _, by omega, by go_num, rfl⟩
      case measure => simp [intOf]; omega
    · go_wp2
      go_ret
      exact ⟨rfl, ⟨rfl, rfl, rfl, Nat.le_refl _, fun _ _ => rfl⟩⟩

end
section
set_option linter.unusedVariables false
open Go.RowKit

theorem cBig (A : Option Addr) (len cap : Nat) (w : World) (h : len ≤ maxLen) :
    Calls Tryz.prog 6 #[.slice A len cap] w fun e w' => e = .returned (.bool (decide (4096 < len))) ∧ w = w' := by
  unfold maxLen at h
  by_cases h1 : 4096 < len
  · have hd : decide ((4096 : Int) < (len : Int)) = true := decide_eq_true (by omega)
    have HD := Lib.hid (decide_eq_true h1)
    clear h1
    go_enter Tryz.func6, Tryz.ntmps6
    go_wp2
    go_ret
    exact ⟨ret_bool HD.out.symm, rfl⟩
  · have hd : decide ((4096 : Int) < (len : Int)) = false := decide_eq_false (by omega)
    have HD := Lib.hid (decide_eq_false h1)
    clear h1
    go_enter Tryz.func6, Tryz.ntmps6
    go_wp2
    go_ret
    exact ⟨ret_bool HD.out.symm, rfl⟩
end
end Go.Proofs.YthlilfdndpnbkaaGreatDoor
