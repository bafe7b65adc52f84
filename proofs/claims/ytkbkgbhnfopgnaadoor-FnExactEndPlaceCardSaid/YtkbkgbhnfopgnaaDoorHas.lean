/-
  The contracts of HasYear of both packages.
-/
import Derived.Test.YtkbkgbhnfopgnaaDoorMq10
import Derived.Test.YtkbkgbhnfopgnaaDoorMq6
import Derived.Laws.StructEq
namespace Go.Proofs.YtkbkgbhnfopgnaaDoor
set_option linter.unusedVariables false
open Go.RowKit

def inB (x y z : Int) : Bool := decide (x ≤ z) && decide (z ≤ y)
def hasB (xs : List Spn) (z : Int) : Bool := xs.any fun p => inB p.1 p.2 z
theorem hasB_step {xs : List Spn} {k : Nat} {p : Spn} {z : Int} (h : xs[k]? = some p) (ha : hasB (xs.take k) z = false) (hc : inB p.1 p.2 z = false) : hasB (xs.take (k + 1)) z = false := by
  have hl := (List.getElem?_eq_some_iff.1 h).1
  have he : xs[k] = p := (List.getElem?_eq_some_iff.1 h).2
  rw [List.take_succ_eq_append_getElem hl, he]; unfold hasB at *; rw [List.any_append, ha]; simp [hc]
theorem hasB_hit {xs : List Spn} {k : Nat} {p : Spn} {z : Int} (h : xs[k]? = some p) (hc : inB p.1 p.2 z = true) : hasB xs z = true := by
  unfold hasB; rw [List.any_eq_true]; exact ⟨p, List.mem_of_getElem? h, hc⟩
theorem inB_mem {xs : List Spn} {z : Int} : hasB xs z = true ↔ memS z xs := by
  unfold hasB memS inB; rw [List.any_eq_true]
  constructor
  · rintro ⟨p, hp, h⟩; simp at h; exact ⟨p, hp, h⟩
  · rintro ⟨p, hp, h⟩; exact ⟨p, hp, by simp; exact h⟩

theorem len2 {α : Type} {l : List α} (h : l.length = 2) : ∃ a b, l = [a, b] := by
  match l, h with
  | [a, b], _ => exact ⟨a, b, rfl⟩
theorem fields_span : ((Tryd.prog).fieldsOf 29).toList.map (fun f => (f.name == "_", f.type, f.offset)) = [(false, 2, 0), (false, 2, 1)] := by kernel_rfl
theorem under_span : (Tryd.prog).underlying 29 = some (.struct ((Tryd.prog).fieldsOf 29)) := by kernel_rfl
theorem stood_span : (Tryd.prog).stoodInHeld 29 = false := by kernel_rfl
theorem guard_span : (Tryd.prog).eqGuardType (Tryd.prog).depth 29 = false := by kernel_rfl
theorem run_eqSp (a b c d : Int) (W : World) : (binOp .eql 29 (.agg #[.int .i64 a, .int .i64 b]) (.agg #[.int .i64 c, .int .i64 d])).run Tryd.prog W = .ok (.bool (a == c && b == d)) W := by
  rw [run_eql_struct, run_equalIn_agg W 9999 _ _ _ under_span stood_span]
  obtain ⟨f0, f1, hf, h0, h1⟩ : ∃ f0 f1 : Field, ((Tryd.prog).fieldsOf 29).toList = [f0, f1] ∧ ((f0.name == "_") = false ∧ f0.type = 2 ∧ f0.offset = 0) ∧ (f1.name == "_") = false ∧ f1.type = 2 ∧ f1.offset = 1 := by
    have h := fields_span
    generalize ((Tryd.prog).fieldsOf 29).toList = l at h
    obtain ⟨f0, f1, rfl⟩ := len2 (by simpa using congrArg List.length h)
    simp only [List.map_cons, List.map_nil, List.cons.injEq, Prod.mk.injEq, and_true] at h
    exact ⟨f0, f1, rfl, h.1, h.2⟩
  obtain ⟨n0, t0, o0⟩ := h0
  obtain ⟨n1, t1, o1⟩ := h1
  rw [hf]
  have n0' : f0.name ≠ "_" := by simpa using n0
  have n1' : f1.name ≠ "_" := by simpa using n1
  have hi := Tryd.underlying2
  simp [Op.eqFields, n0', n1', t0, o0, t1, o1, go_sem, hi]
  by_cases h1 : a = c <;> by_cases h2 : b = d <;> simp [h1, h2]

theorem cHolds (x y z : Int) (w : World) :
    Calls Tryd.prog 77 #[.agg #[.int .i64 x, .int .i64 y], .agg #[.int .i64 z, .int .i64 z]] w fun e w' => e = .returned (.bool (inB x y z)) ∧ Below w.heap.size w w' := by
  have C1 := Lib.hid (fun W => cMeet x y z z W)
  obtain ⟨W0, hW0⟩ : ∃ W0 : World, W0 = (w.alloc (.cells #[.int .i64 x, .int .i64 y] 29)).alloc (.cells #[.int .i64 z, .int .i64 z] 29) := ⟨_, rfl⟩
  have B0 : Below w.heap.size w W0 := by rw [hW0]; exact ((Below.refl _ _).alloc (Nat.le_refl _) _).alloc (by simp) _
  have K1 : BoxAt W0 w.heap.size x y := by rw [hW0]; exact (BoxAt.new w x y _).alloc _
  have K2 : BoxAt W0 (w.heap.size + 1) z z := by rw [hW0]; have h := BoxAt.new (w.alloc (.cells #[.int .i64 x, .int .i64 y] 29)) z z 29; simpa using h
  have HW := Lib.hid hW0
  clear hW0
  go_enter Tryd.func77, Tryd.ntmps77
  go_wp2_with fail
  rw [← HW.out]
  clear HW
  obtain ⟨l1, a0, a1⟩ := K1
  obtain ⟨l2, b0, b1⟩ := K2
  obtain ⟨T, f, t0, hT, ht0, hf, hback⟩ := class_of W0
  have k0 : ∀ t, (f t).cell? ⟨w.heap.size, 0, none⟩ = some (.int .i64 x) := fun t => ((hf t).cell (p := ⟨w.heap.size, 0, none⟩) l1).trans a0
  have k1 : ∀ t, (f t).cell? ⟨w.heap.size, 1, none⟩ = some (.int .i64 y) := fun t => ((hf t).cell (p := ⟨w.heap.size, 1, none⟩) l1).trans a1
  have k2 : ∀ t, (f t).cell? ⟨w.heap.size + 1, 0, none⟩ = some (.int .i64 z) := fun t => ((hf t).cell (p := ⟨w.heap.size + 1, 0, none⟩) l2).trans b0
  have k3 : ∀ t, (f t).cell? ⟨w.heap.size + 1, 1, none⟩ = some (.int .i64 z) := fun t => ((hf t).cell (p := ⟨w.heap.size + 1, 1, none⟩) l2).trans b1
  have HF := Lib.hid hf
  have HK := Lib.hid hback
  clear hf hback
  refine wp_region_class f t0 ht0 (by kernel_rfl) (by kernel_rfl) ?_
  clear ht0
  have hEq := fun W => run_eqSp (max x z) (min y z) z z W
  have hGd := guard_span
  repeat (go_big_quiet_step (first | (go_at_call 81; exact Calls.class_of HF.out HK.out (C1.out _))))
  refine wpQuiet_nil ?_
  rintro w' ⟨t, rfl⟩
  have hbt := B0.trans ((HF.out t).mono B0.size)
  go_wp2
  go_ret
  refine ⟨ret_bool ?_, hbt⟩
  unfold inB
  rw [Bool.eq_iff_iff]
  simp
  omega

def hasV (xs : List Spn) (z : Int) : Value := if yearsB xs then .tuple #[.bool (hasB xs z), .int .i64 0] else .tuple #[.bool false, .int .i64 1]
theorem hasV_ok {xs : List Spn} {z : Int} (h : yearsB xs = true) : hasV xs z = .tuple #[.bool (hasB xs z), .int .i64 0] := by unfold hasV; rw [if_pos h]
theorem hasV_bad {xs : List Spn} {z : Int} (h : yearsB xs = false) : hasV xs z = .tuple #[.bool false, .int .i64 1] := by unfold hasV; rw [if_neg (by simp [h])]
theorem hasV_form (xs : List Spn) (z : Int) : ∃ (a : Bool) (c : Int), hasV xs z = .tuple #[.bool a, .int .i64 c] := by
  unfold hasV; split
  · exact ⟨_, _, rfl⟩
  · exact ⟨_, _, rfl⟩

end Go.Proofs.YtkbkgbhnfopgnaaDoor
