/-
  The contracts of the laws' markSpanS and heldSpanS, and rows of spans that are carried from world to world.
-/
import Derived.Test.YtnacaglpfpdppaaSets
namespace Go.Proofs.Ytnacaglpfpdppaa
set_option linter.unusedVariables false
open Go.RowKit

/-- A row of spans of one's own. -/
def Row (w : World) (A : Option Addr) (n c : Nat) (xs : List Sp) : Prop := w.ownsRow 0 30 2 (.slice A n c) n (spanV xs)
theorem Row.of {w : World} {A : Option Addr} {n c b : Nat} {xs : List Sp} (h : w.ownsRow b 30 2 (.slice A n c) n (spanV xs)) : Row w A n c xs := ownsRow_base h (Nat.zero_le _)
theorem Row.len {w : World} {A : Option Addr} {n c : Nat} {xs : List Sp} (h : Row w A n c xs) : xs.length = n := by have := h.1; rw [spanV_len] at this; omega
theorem Row.grown {w w' : World} {A : Option Addr} {n c : Nat} {xs : List Sp} {row : Option Nat} (h : Row w A n c xs) (hg : w.grownBy w' row) (hne : ∀ x, (Value.slice A n c).ownBlock = some x → row ≠ some x) : Row w' A n c xs := by
  refine World.ownsRow.kept h hg ?_
  cases hC : (Value.slice A n c).ownBlock with
  | none => exact .inl rfl
  | some x => exact .inr (fun e => hne x hC e.symm)
theorem Row.below {w w' : World} {A : Option Addr} {n c : Nat} {xs : List Sp} (h : Row w A n c xs) (hb : Below w.heap.size w w') : Row w' A n c xs := h.grown (below_grown_ hb none) (fun _ _ e => by cases e)
theorem Row.span {w : World} {A : Option Addr} {n c : Nat} {xs : List Sp} (h : Row w A n c xs) : SpanAt w w.heap.size A n xs := SpanAt.own h

def marksP (k n : Nat) : List Sp := (List.range n).map fun (i : Nat) => (((k + 2 * i : Nat) : Int), ((k + 2 * i + 1 : Nat) : Int))
theorem marksP_len (k n : Nat) : (marksP k n).length = n := by simp [marksP]
theorem marksP_at (k n j : Nat) (h : j < n) : (marksP k n)[j]? = some (((k + 2 * j : Nat) : Int), ((k + 2 * j + 1 : Nat) : Int)) := by simp [marksP, h]
theorem marksP_succ (k j : Nat) : marksP k (j + 1) = marksP k j ++ [(((k + 2 * j : Nat) : Int), ((k + 2 * j + 1 : Nat) : Int))] := by unfold marksP; rw [List.range_succ, List.map_append]; rfl
def markSp (k j : Nat) (xs : List Sp) : List Sp := marksP k j ++ xs.drop j
theorem markSp_len (k j : Nat) (xs : List Sp) (h : j ≤ xs.length) : (markSp k j xs).length = xs.length := by unfold markSp; rw [List.length_append, marksP_len, List.length_drop]; omega
theorem spanV_set2 (ys : List Sp) (q : Sp) (zs : List Sp) (a b : Int) : ((spanV (ys ++ q :: zs)).set (ys.length * 2) (.int .i64 a)).set (ys.length * 2 + 1) (.int .i64 b) = spanV (ys ++ (a, b) :: zs) := by
  rw [spanV_app, spanV_cons, List.set_append_right _ _ (by rw [spanV_len]; exact Nat.le_refl _), List.set_append_right _ _ (by rw [spanV_len]; omega), spanV_len, Nat.sub_self, show ys.length * 2 + 1 - ys.length * 2 = 1 by omega, spanV_app, spanV_cons]
  rfl
theorem markSp_step (k j : Nat) (xs : List Sp) (h : j < xs.length) : ((spanV (markSp k j xs)).set (j * 2) (.int .i64 ((k + 2 * j : Nat) : Int))).set (j * 2 + 1) (.int .i64 ((k + 2 * j + 1 : Nat) : Int)) = spanV (markSp k (j + 1) xs) := by
  have h1 := spanV_set2 (marksP k j) xs[j] (xs.drop (j + 1)) ((k + 2 * j : Nat) : Int) ((k + 2 * j + 1 : Nat) : Int)
  rw [marksP_len] at h1
  unfold markSp
  rw [List.drop_eq_getElem_cons h, h1, marksP_succ, List.append_assoc]; rfl

def MarkPost (A : Option Addr) (n c k : Nat) (w : World) (e : Ending) (w' : World) : Prop :=
  e = .returned (.int .i64 ((k + 2 * n : Nat) : Int)) ∧ Row w' A n c (marksP k n) ∧ w.grownBy w' (Value.slice A n c).ownBlock

end Go.Proofs.Ytnacaglpfpdppaa
