/-
  Draws that append to rows of their own: what becomes of the source, and the append of one text or one number as a law of its own.
-/
import Derived.Test.YtlogbgkbdjdkkaaDraw
import Derived.Test.YtlogbgkbdjdkkaaNumAt
import Derived.Test.YtlogbgkbdjdkkaaTexts
import Derived.Deep.AppendLies
namespace Go.Proofs.Ytlogbgkbdjdkkaa
set_option linter.unusedVariables false
open Go.RowKit

theorem Src.own {w w' : World} {B len : Nat} {r : Option Nat} (h : Src w B len) (hg : w.grownBy w' r) (hr : ∀ k, r = some k → B < k) : Src w' B len := by
  obtain ⟨A, cap, at_, seed, hT, h1, h2, h3, h4, hC⟩ := h
  refine ⟨A, cap, at_, seed, (hg.block B hT.lt (fun e => by have := hr B e.symm; omega)).trans hT, h1, h2, h3, h4, fun hp => ?_⟩
  obtain ⟨b, o, hA, hne, hlt, hc⟩ := hC hp
  refine ⟨b, o, hA, hne, Nat.lt_of_lt_of_le hlt hg.size, fun j hj => ?_⟩
  obtain ⟨z, z0, z1, z2⟩ := hc j hj
  exact ⟨z, z0, z1, hg.cell z2 (fun e => by have := hr b e.symm; omega)⟩
theorem grown_ownB {w w1 w2 : World} {B : Nat} {r : Option Nat} (h : w.grownBy w1 (some B)) (hg : w1.grownBy w2 r) (hr : ∀ k, r = some k → w.heap.size ≤ k) : w.grownBy w2 (some B) :=
  ⟨hg.os.trans h.os, hg.tape.trans h.tape, hg.output.trans h.output, Nat.le_trans h.size hg.size, fun k hk hne =>
    (hg.block k (Nat.lt_of_lt_of_le hk h.size) (fun e => by have := hr k e.symm; omega)).trans (h.block k hk hne)⟩
theorem own_lo {w : World} {base s n : Nat} {t : TypeId} {v : Value} {xs : List Value} (h : w.ownsRow base t s v n xs) {C : Nat} (hC : C ≤ base) : ∀ k, v.ownBlock = some k → C ≤ k := fun k hk => Nat.le_trans hC (h.lt k hk).1
theorem own_gt {w : World} {base s n : Nat} {t : TypeId} {v : Value} {xs : List Value} (h : w.ownsRow base t s v n xs) {C : Nat} (hC : C < base) : ∀ k, v.ownBlock = some k → C < k := fun k hk => Nat.lt_of_lt_of_le hC (h.lt k hk).1
theorem info_str7 : (Try.prog.info? 9).map (fun i => (i.zero, i.size, i.bytes)) = some (some (.string ByteArray.empty), 1, 16) := by kernel_rfl
theorem info_int7 : (Try.prog.info? 2).map (fun i => (i.zero, i.size, i.bytes)) = some (some (.int .i64 0), 1, 8) := by kernel_rfl
theorem wpList_push_int {ops : Array Oper} {rest : List Oper} {o : Oper} {a : Act} {w : World} {Q : Exit → Act → World → Prop} (hgd : o.guard = none) (s x : Operand)
    (ho : o.op = .call { callee := .builtin .append, args := #[s, x], argTypes := #[24, 24] }) (base : Nat) (v : Value) (n : Nat) (xs : List Int) (hs : a.eval s = v) (hown : w.ownsRow base 2 1 v n (intV xs))
    (g : Nat) (hx : a.eval x = .slice (some ⟨g, 0, none⟩) 1 1) (y : Int) (hc : w.cell? ⟨g, 0, none⟩ = some (.int .i64 y)) (hn : n ≤ 1048576) (hbase : base ≤ w.heap.size)
    (h : ∀ (A : Option Addr) (c : Nat) (w' : World), w'.ownsRow base 2 1 (.slice A (n + 1) c) (n + 1) (intV (xs ++ [y])) → w.grownBy w' v.ownBlock → wpList Try.prog ops Q rest (a.put o.dst (.slice A (n + 1) c)) w') : wpList Try.prog ops Q (o :: rest) a w := by
  obtain ⟨i0, hi0, hz0, hz1, hz2⟩ := info_parts info_int7
  refine wpList_append_own _ hgd s x 24 ho base 2 i0 _ 1 8 Try.underlying24 hi0 hz0 hz1 hz2 rfl (by decide) v n (intV xs) hs hown ⟨g, 0, none⟩ 1 1 [.int .i64 y] hx rfl (one_cell' _ _ _ hc) (fun u hu => by simp at hu; subst hu; rfl) (by unfold maxLen; omega) (by omega) hbase ?_
  intro v' w' h1 h2 _
  rw [intV_snoc] at h1
  obtain ⟨g2, c2, rfl, _, _⟩ := h1.form (Nat.succ_pos _)
  exact h _ c2 w' h1 h2
end Go.Proofs.Ytlogbgkbdjdkkaa
