/-
  The contracts of HasYear of both packages.
-/
import Derived.Test.YthlilfdndpnbkaaGreatDoorMu11
import Derived.Test.YthlilfdndpnbkaaGreatDoorMu4
import Derived.Laws.StructEq
namespace Go.Proofs.YthlilfdndpnbkaaGreatDoor
set_option linter.unusedVariables false
open Go.RowKit

def inB (x y z : Int) : Bool := decide (x ≤ z) && decide (z ≤ y)
def hasB (xs : List Spn) (z : Int) : Bool := xs.any fun p => inB p.1 p.2 z
theorem hasB_step {xs : List Spn} {k : Nat} {p : Spn} {z : Int} (h : xs[k]? = some p) (ha : hasB (xs.take k) z = false) (hc : inB p.1 p.2 z = false) : hasB (xs.take (k + 1)) z = false := by
  have hl := (List.getElem?_eq_some_iff.1 h).1
  have he : xs[k] = p := (List.getElem?_eq_some_iff.1 h).2
  rw [List.take_succ_eq_append_getElem hl, he]; unfold hasB at *; rw [List.any_append, ha]; simp [hc]
theorem hasB_hit {xs : List Spn} {k : Nat} {p : Spn} {z : Int} (h : xs[k]? = some p) (hc : inB p.1 p.2 z = true) : hasB xs z = true := by
  unfold hasB; rw [List.any_eq_true]; exact ⟨p, List.mem_of_getElem? h, hc⟩
theorem inB_mem {xs : List Spn} {z : Int} : hasB xs z = true ↔ memS z xs := by
  unfold hasB memS inB; rw [List.any_eq_true]
  constructor
  · rintro ⟨p, hp, h⟩; simp at h; exact ⟨p, hp, h⟩
  · rintro ⟨p, hp, h⟩; exact ⟨p, hp, by simp; exact h⟩

theorem len2 {α : Type} {l : List α} (h : l.length = 2) : ∃ a b, l = [a, b] := by
  match l, h with
  | [a, b], _ => exact ⟨a, b, rfl⟩
theorem fields_span : ((Tryz.prog).fieldsOf 25).toList.map (fun f => (f.name == "_", f.type, f.offset)) = [(false, 2, 0), (false, 2, 1)] := by kernel_rfl
theorem under_span : (Tryz.prog).underlying 25 = some (.struct ((Tryz.prog).fieldsOf 25)) := by kernel_rfl
theorem stood_span : (Tryz.prog).stoodInHeld 25 = false := by kernel_rfl
theorem guard_span : (Tryz.prog).eqGuardType (Tryz.prog).depth 25 = false := by kernel_rfl
theorem run_eqSp (a b c d : Int) (W : World) : (binOp .eql 25 (.agg #[.int .i64 a, .int .i64 b]) (.agg #[.int .i64 c, .int .i64 d])).run Tryz.prog W = .ok (.bool (a == c && b == d)) W := by
  rw [run_eql_struct, run_equalIn_agg W 9999 _ _ _ under_span stood_span]
  obtain ⟨f0, f1, hf, h0, h1⟩ : ∃ f0 f1 : Field, ((Tryz.prog).fieldsOf 25).toList = [f0, f1] ∧ ((f0.name == "_") = false ∧ f0.type = 2 ∧ f0.offset = 0) ∧ (f1.name == "_") = false ∧ f1.type = 2 ∧ f1.offset = 1 := by
    have h := fields_span
    generalize ((Tryz.prog).fieldsOf 25).toList = l at h
    obtain ⟨f0, f1, rfl⟩ := len2 (by simpa using congrArg List.length h)
    simp only [List.map_cons, List.map_nil, List.cons.injEq, Prod.mk.injEq, and_true] at h
    exact ⟨f0, f1, rfl, h.1, h.2⟩
  obtain ⟨n0, t0, o0⟩ := h0
  obtain ⟨n1, t1, o1⟩ := h1
  rw [hf]
  have n0' : f0.name ≠ "_" := by simpa using n0
  have n1' : f1.name ≠ "_" := by simpa using n1
  have hi := Tryz.underlying2
  simp [Op.eqFields, n0', n1', t0, o0, t1, o1, go_sem, hi]
  by_cases h1 : a = c <;> by_cases h2 : b = d <;> simp [h1, h2]

theorem cHolds (x y z : Int) (w : World) :
    Calls Tryz.prog 82 #[.agg #[.int .i64 x, .int .i64 y], .agg #[.int .i64 z, .int .i64 z]] w fun e w' => e = .returned (.bool (inB x y z)) ∧ Below w.heap.size w w' := by
  have C1 := Lib.hid (fun W => cMeet x y z z W)
  obtain ⟨W0, hW0⟩ : ∃ W0 : World, W0 = (w.alloc (.cells #[.int .i64 x, .int .i64 y] 25)).alloc (.cells #[.int .i64 z, .int .i64 z] 25) := ⟨_, rfl⟩
  have B0 : Below w.heap.size w W0 := by rw [hW0]; exact ((Below.refl _ _).alloc (Nat.le_refl _) _).alloc (by simp) _
  have K1 : BoxAt W0 w.heap.size x y := by rw [hW0]; exact (BoxAt.new w x y _).alloc _
  have K2 : BoxAt W0 (w.heap.size + 1) z z := by rw [hW0]; have h := BoxAt.new (w.alloc (.cells #[.int .i64 x, .int .i64 y] 25)) z z 25; simpa using h
  have HW := Lib.hid hW0
  clear hW0
  go_enter Tryz.func82, Tryz.ntmps82
  go_wp2_with fail
  rw [← HW.out]
  clear HW
  obtain ⟨l1, a0, a1⟩ := K1
  obtain ⟨l2, b0, b1⟩ := K2
  obtain ⟨T, f, t0, hT, ht0, hf, hback⟩ := class_of W0
  have k0 : ∀ t, (f t).cell? ⟨w.heap.size, 0, none⟩ = some (.int .i64 x) := fun t => ((hf t).cell (p := ⟨w.heap.size, 0, none⟩) l1).trans a0
  have k1 : ∀ t, (f t).cell? ⟨w.heap.size, 1, none⟩ = some (.int .i64 y) := fun t => ((hf t).cell (p := ⟨w.heap.size, 1, none⟩) l1).trans a1
  have k2 : ∀ t, (f t).cell? ⟨w.heap.size + 1, 0, none⟩ = some (.int .i64 z) := fun t => ((hf t).cell (p := ⟨w.heap.size + 1, 0, none⟩) l2).trans b0
  have k3 : ∀ t, (f t).cell? ⟨w.heap.size + 1, 1, none⟩ = some (.int .i64 z) := fun t => ((hf t).cell (p := ⟨w.heap.size + 1, 1, none⟩) l2).trans b1
  have HF := Lib.hid hf
  have HK := Lib.hid hback
  clear hf hback
  refine wp_region_class f t0 ht0 (by kernel_rfl) (by kernel_rfl) ?_
  clear ht0
  have hEq := fun W => run_eqSp (max x z) (min y z) z z W
  have hGd := guard_span
  repeat (go_big_quiet_step (first | (go_at_call 122; exact Calls.class_of HF.out HK.out (C1.out _))))
  refine wpQuiet_nil ?_
  rintro w' ⟨t, rfl⟩
  have hbt := B0.trans ((HF.out t).mono B0.size)
  go_wp2
  go_ret
  refine ⟨ret_bool ?_, hbt⟩
  unfold inB
  rw [Bool.eq_iff_iff]
  simp
  omega

def hasV (xs : List Spn) (z : Int) : Value := if yearsB xs then .tuple #[.bool (hasB xs z), .int .i64 0] else .tuple #[.bool false, .int .i64 1]
theorem hasV_ok {xs : List Spn} {z : Int} (h : yearsB xs = true) : hasV xs z = .tuple #[.bool (hasB xs z), .int .i64 0] := by unfold hasV; rw [if_pos h]
theorem hasV_bad {xs : List Spn} {z : Int} (h : yearsB xs = false) : hasV xs z = .tuple #[.bool false, .int .i64 1] := by unfold hasV; rw [if_neg (by simp [h])]
theorem hasV_form (xs : List Spn) (z : Int) : ∃ (a : Bool) (c : Int), hasV xs z = .tuple #[.bool a, .int .i64 c] := by
  unfold hasV; split
  · exact ⟨_, _, rfl⟩
  · exact ⟨_, _, rfl⟩

set_option maxHeartbeats 1000000 in
set_option maxRecDepth 100000 in
theorem cHas_spec (A : Option Addr) (n cap : Nat) (xs : List Spn) (z : Int) (w : World) (hbig : n ≤ 1048576) (h : SpanAt w w.heap.size A n xs) :
    Calls Tryz.prog 121 #[.slice A n cap, .int .i64 z] w fun e w' => e = .returned (.bool (hasB xs z)) ∧ Below w.heap.size w w' := by
  have H := Lib.hid h
  clear h
  go_enter Tryz.func121, Tryz.ntmps121
  go_wp2_with fail
  go_loopw [5] (fun i wr => ∃ k : Nat, k ≤ n ∧ i = .int .i64 k ∧ Hid (hasB (xs.take k) z = false) ∧ Below w.heap.size w wr) (fun i _ => n - (intOf i).toNat)
  case atStart => exact ⟨0, Nat.zero_le _, rfl, Lib.hid rfl, Below.refl _ _⟩
  case round =>
    obtain ⟨k, hk, rfl, HA, hbw⟩ := hrel
    by_cases hlt : k < n
    · obtain ⟨p, hp⟩ : ∃ p, xs[k]? = some p := ⟨xs[k]'(by have := H.out.1; omega), List.getElem?_eq_getElem _⟩
      obtain ⟨b, o, rfl, hbl, c0, c1⟩ := (H.out.below hbw).2 k p hp
      have hbl2 := Nat.lt_of_lt_of_le hbl hbw.size
      obtain ⟨x, y⟩ := p
      have HP := Lib.hid hp
      have HB := Lib.hid hbw
      have CI := Lib.hid (fun W => cIn_any z x y W)
      have u1 : (0 : Int) ≤ (k : Int) := Int.natCast_nonneg _
      have u2 : (k : Int) < (n : Int) := by omega
      obtain ⟨T, f, t0, hT, ht0, hf, hback⟩ := class_of wr
      have k0 : ∀ t, (f t).cell? ⟨b, o + k * 2, none⟩ = some (.int .i64 x) := fun t => ((hf t).cell (p := ⟨b, o + k * 2, none⟩) hbl2).trans c0
      have k1 : ∀ t, (f t).cell? ⟨b, o + k * 2 + 1, none⟩ = some (.int .i64 y) := fun t => ((hf t).cell (p := ⟨b, o + k * 2 + 1, none⟩) hbl2).trans c1
      have HF := Lib.hid hf
      have HK := Lib.hid hback
      clear hf hback hp hbw
      have hi : (decide (x ≤ z) && decide (z ≤ y)) = inB x y z := rfl
      rw [hi] at CI
      clear hi
      cases hv : inB x y z
      · have HC := Lib.hid (hasB_step HP.out HA.out hv)
        rw [hv] at CI
        clear hv
        go_wp2_with fail
        refine wp_region_class f t0 ht0 (by kernel_rfl) (by kernel_rfl) ?_
        clear ht0
        repeat (go_big_quiet_step (first | (go_at_call 92; exact Calls.class_same (CI.out _))))
        refine wpQuiet_nil ?_
        rintro w' ⟨t, rfl⟩
        have hbt := HB.out.trans ((HF.out t).mono HB.out.size)
        go_wp2
        go_roundw
        case rel => exact ⟨k + 1, by omega, by go_num, HC, hbt⟩
        case measure => simp [intOf]; omega
      · have HC := Lib.hid (hasB_hit HP.out hv)
        rw [hv] at CI
        clear hv
        go_wp2_with fail
        refine wp_region_class f t0 ht0 (by kernel_rfl) (by kernel_rfl) ?_
        clear ht0
        repeat (go_big_quiet_step (first | (go_at_call 92; exact Calls.class_same (CI.out _))))
        refine wpQuiet_nil ?_
        rintro w' ⟨t, rfl⟩
        have hbt := HB.out.trans ((HF.out t).mono HB.out.size)
        go_wp2
        go_ret
        exact ⟨ret_bool HC.out.symm, hbt⟩
    · obtain rfl : k = n := by omega
      go_wp2
      go_ret
      exact ⟨ret_bool (by rw [← HA.out, List.take_of_length_le (by have := H.out.1; omega)]), hbw⟩

set_option maxHeartbeats 1000000 in
theorem cHasYear_impl (A : Option Addr) (n cap : Nat) (xs : List Spn) (z : Int) (w : World) (hbig : n ≤ 1048576) (h : SpanAt w w.heap.size A n xs) :
    Calls Tryz.prog 40 #[.slice A n cap, .int .i64 z] w fun e w' => e = .returned (hasV xs z) ∧ Below w.heap.size w w' := by
  have H := Lib.hid h
  have CA := Lib.hid (cAre_impl A n cap xs w hbig h)
  clear h
  cases hy : yearsB xs
  · have HJ := Lib.hid (hasV_bad (z := z) hy)
    rw [hy] at CA
    clear hy
    go_enter Tryz.func40, Tryz.ntmps40
    go_wp2_with fail
    refine CA.out.mono ?_
    rintro e w1 ⟨rfl, hb1⟩
    go_wp2_with fail
    go_ret2
    exact ⟨by rw [HJ.out]; rfl, hb1⟩
  · have HJ := Lib.hid (hasV_ok (z := z) hy)
    rw [hy] at CA
    clear hy
    go_enter Tryz.func40, Tryz.ntmps40
    go_wp2_with fail
    refine CA.out.mono ?_
    rintro e w1 ⟨rfl, hb1⟩
    have hb1' := hb1.alloc hb1.size (.cells #[.int .i64 z, .int .i64 z] 25)
    have hgl : w.heap.size ≤ w1.heap.size := hb1.size
    have HN := Lib.hid (BoxAt.new w1 z z 25)
    go_wp2_with fail
    go_loopw [17] (fun i wr => ∃ k : Nat, k ≤ n ∧ i = .int .i64 k ∧ Hid (hasB (xs.take k) z = false) ∧ Hid (BoxAt wr w1.heap.size z z) ∧ Below w.heap.size w wr) (fun i _ => n - (intOf i).toNat)
    case atStart => exact ⟨0, Nat.zero_le _, rfl, Lib.hid rfl, HN, hb1'⟩
    case round =>
      clear hb1' HN
      obtain ⟨k, hk, rfl, HA, HN, hbw⟩ := hrel
      by_cases hlt : k < n
      · obtain ⟨p, hp⟩ : ∃ p, xs[k]? = some p := ⟨xs[k]'(by have := H.out.1; omega), List.getElem?_eq_getElem _⟩
        obtain ⟨b, o, rfl, hbl, c0, c1⟩ := (H.out.below hbw).2 k p hp
        have hbl2 := Nat.lt_of_lt_of_le hbl hbw.size
        obtain ⟨x, y⟩ := p
        have HP := Lib.hid hp
        have CH := Lib.hid (fun W => cHolds x y z W)
        obtain ⟨l1, n0, n1⟩ := HN.out
        have hb2 := hbw.alloc hbw.size (.cells #[.int .i64 x, .int .i64 y] 25)
        have HN2 := Lib.hid (HN.out.alloc (.cells #[.int .i64 x, .int .i64 y] 25))
        clear hp hbw
        cases hv : inB x y z
        · have HC := Lib.hid (hasB_step HP.out HA.out hv)
          rw [hv] at CH
          clear hv
          go_wp2_with fail
          refine (CH.out _).mono ?_
          rintro e w3 ⟨rfl, hb3⟩
          have HN3 := Lib.hid (HN2.out.below hb3)
          go_wp2_with fail
          go_roundw
          case rel => exact ⟨k + 1, by omega, by go_num, HC, HN3, hb2.trans (hb3.mono hb2.size)⟩
          case measure => simp [intOf]; omega
        · have HC := Lib.hid (hasB_hit HP.out hv)
          rw [hv] at CH
          clear hv
          go_wp2_with fail
          refine (CH.out _).mono ?_
          rintro e w3 ⟨rfl, hb3⟩
          go_wp2_with fail
          go_ret2
          exact ⟨by rw [HJ.out, HC.out]; rfl, hb2.trans (hb3.mono hb2.size)⟩
      · obtain rfl : k = n := by omega
        go_wp2_with fail
        go_ret2
        exact ⟨by rw [HJ.out, ← HA.out, List.take_of_length_le (by have := H.out.1; omega)]; rfl, hbw⟩
end Go.Proofs.YthlilfdndpnbkaaGreatDoor
