/-
  Equality of spans as values, and the contract of the laws' big.
-/
import Derived.Test.YtlncmnheaifdmaaDoorBox
import Derived.Laws.StructEq
namespace Go.Proofs.YtlncmnheaifdmaaDoor
set_option linter.unusedVariables false
open Go.RowKit

theorem len2 {α : Type} {l : List α} (h : l.length = 2) : ∃ a b, l = [a, b] := by
  match l, h with
  | [a, b], _ => exact ⟨a, b, rfl⟩
theorem fields_span : ((Tryd.prog).fieldsOf 44).toList.map (fun f => (f.name == "_", f.type, f.offset)) = [(false, 2, 0), (false, 2, 1)] := by kernel_rfl
theorem under_span : (Tryd.prog).underlying 44 = some (.struct ((Tryd.prog).fieldsOf 44)) := by kernel_rfl
theorem stood_span : (Tryd.prog).stoodInHeld 44 = false := by kernel_rfl
theorem guard_span : (Tryd.prog).eqGuardType (Tryd.prog).depth 44 = false := by kernel_rfl
theorem run_neSp (a b c d : Int) (W : World) : (binOp .neq 44 (.agg #[.int .i64 a, .int .i64 b]) (.agg #[.int .i64 c, .int .i64 d])).run Tryd.prog W = .ok (.bool (!(a == c && b == d))) W := by
  rw [run_neq_struct, run_equalIn_agg W 9999 _ _ _ under_span stood_span]
  obtain ⟨f0, f1, hf, h0, h1⟩ : ∃ f0 f1 : Field, ((Tryd.prog).fieldsOf 44).toList = [f0, f1] ∧ ((f0.name == "_") = false ∧ f0.type = 2 ∧ f0.offset = 0) ∧ (f1.name == "_") = false ∧ f1.type = 2 ∧ f1.offset = 1 := by
    have h := fields_span
    generalize ((Tryd.prog).fieldsOf 44).toList = l at h
    obtain ⟨f0, f1, rfl⟩ := len2 (by simpa using congrArg List.length h)
    simp only [List.map_cons, List.map_nil, List.cons.injEq, Prod.mk.injEq, and_true] at h
    exact ⟨f0, f1, rfl, h.1, h.2⟩
  obtain ⟨n0, t0, o0⟩ := h0
  obtain ⟨n1, t1, o1⟩ := h1
  rw [hf]
  have n0' : f0.name ≠ "_" := by simpa using n0
  have n1' : f1.name ≠ "_" := by simpa using n1
  have hi := Tryd.underlying2
  simp [Op.eqFields, n0', n1', t0, o0, t1, o1, go_sem, hi]
  by_cases h1 : a = c <;> by_cases h2 : b = d <;> simp [h1, h2]
theorem run_neSame (a b : Int) (W : World) : (binOp .neq 44 (.agg #[.int .i64 a, .int .i64 b]) (.agg #[.int .i64 a, .int .i64 b])).run Tryd.prog W = .ok (.bool false) W := by
  rw [run_neSp, beq_self_eq_true, beq_self_eq_true]; rfl
theorem cBig (A : Option Addr) (len cap : Nat) (w : World) (h : len ≤ maxLen) :
    Calls Tryd.prog 9 #[.slice A len cap] w fun e w' => e = .returned (.bool (decide (4096 < len))) ∧ w = w' := by
  unfold maxLen at h
  by_cases h1 : 4096 < len
  · have hd : decide ((4096 : Int) < (len : Int)) = true := decide_eq_true (by omega)
    have HD := Lib.hid (decide_eq_true h1)
    clear h1
    go_enter Tryd.func9, Tryd.ntmps9
    go_wp2
    go_ret
    exact ⟨ret_bool HD.out.symm, rfl⟩
  · have hd : decide ((4096 : Int) < (len : Int)) = false := decide_eq_false (by omega)
    have HD := Lib.hid (decide_eq_false h1)
    clear h1
    go_enter Tryd.func9, Tryd.ntmps9
    go_wp2
    go_ret
    exact ⟨ret_bool HD.out.symm, rfl⟩
end Go.Proofs.YtlncmnheaifdmaaDoor
