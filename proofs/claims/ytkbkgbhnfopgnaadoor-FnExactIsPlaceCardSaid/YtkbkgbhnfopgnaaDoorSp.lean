/-
  What holds of a range of blocks holds in every later world in which that range lies as it lay.
-/
import Derived.Test.YtkbkgbhnfopgnaaDoorPlain
import Derived.OwnWalk
import Derived.Laws.OwnMore
import Derived.Below
import Derived.Deep.QuietTactic
namespace Go.Proofs.YtkbkgbhnfopgnaaDoor
set_option linter.unusedVariables false
open Go.RowKit

/-- From w to w' nothing in the blocks lo .. hi - 1 has changed. -/
structure Like (lo hi : Nat) (w w' : World) : Prop where
  os : w'.os = w.os
  tape : w'.tape = w.tape
  output : w'.output = w.output
  size : w.heap.size ≤ w'.heap.size
  block : ∀ k, lo ≤ k → k < hi → w'.heap[k]? = w.heap[k]?
theorem Like.refl (lo hi : Nat) (w : World) : Like lo hi w w := ⟨rfl, rfl, rfl, Nat.le_refl _, fun _ _ _ => rfl⟩
theorem Like.trans {lo hi : Nat} {a b c : World} (h : Like lo hi a b) (k : Like lo hi b c) : Like lo hi a c :=
  ⟨k.os.trans h.os, k.tape.trans h.tape, k.output.trans h.output, Nat.le_trans h.size k.size, fun i h1 h2 => (k.block i h1 h2).trans (h.block i h1 h2)⟩
theorem Like.of_below {lo hi B : Nat} {w w' : World} (h : Below B w w') (hB : hi ≤ B) : Like lo hi w w' := ⟨h.os, h.tape, h.output, h.size, fun k _ h2 => h.block k (Nat.lt_of_lt_of_le h2 hB)⟩
theorem Like.of_grown {lo hi : Nat} {w w' : World} {r : Option Nat} (h : w.grownBy w' r) (hw : hi ≤ w.heap.size) (hne : ∀ k, r = some k → k < lo ∨ hi ≤ k) : Like lo hi w w' :=
  ⟨h.os, h.tape, h.output, h.size, fun k h1 h2 => h.block k (Nat.lt_of_lt_of_le h2 hw) (fun e => by have := hne k e.symm; omega)⟩
theorem Like.below {hi : Nat} {w w' : World} (h : Like 0 hi w w') : Below hi w w' := ⟨h.os, h.tape, h.output, h.size, fun k h1 => h.block k (Nat.zero_le _) h1⟩
/-- P holds as long as the blocks lo .. hi - 1 lie as they lie. -/
def Sp (lo hi : Nat) (P : World → Prop) (w : World) : Prop := hi ≤ w.heap.size ∧ ∀ W, Like lo hi w W → P W
theorem Sp.here {lo hi : Nat} {P : World → Prop} {w : World} (h : Sp lo hi P w) : P w := h.2 w (Like.refl _ _ _)
theorem Sp.like {lo hi : Nat} {P : World → Prop} {w w' : World} (h : Sp lo hi P w) (hl : Like lo hi w w') : Sp lo hi P w' := ⟨Nat.le_trans h.1 hl.size, fun W hW => h.2 W (hl.trans hW)⟩
theorem Sp.next {lo hi : Nat} {P : World → Prop} {w w' : World} (h : Sp lo hi P w) (hb : Below w.heap.size w w') : Sp lo hi P w' := h.like (Like.of_below hb h.1)
theorem Sp.mark {lo hi : Nat} {P : World → Prop} {w w' : World} {r : Option Nat} (h : Sp lo hi P w) (hg : w.grownBy w' r) (hne : ∀ k, r = some k → k < lo ∨ hi ≤ k) : Sp lo hi P w' := h.like (Like.of_grown hg h.1 hne)
theorem Sp.from_ (w : World) : Sp 0 w.heap.size (fun W => Below w.heap.size w W) w := ⟨Nat.le_refl _, fun _ h => h.below⟩
theorem Sp.row {w : World} {lo s n : Nat} {t : TypeId} {v : Value} {xs : List Value} (h : w.ownsRow lo t s v n xs) : Sp lo w.heap.size (fun W => W.ownsRow lo t s v n xs) w :=
  ⟨Nat.le_refl _, fun W hW => ⟨h.1, by
    rcases h.2 with h2 | ⟨g, cap, cur, h1, h2, h3, h4⟩
    · exact .inl h2
    · exact .inr ⟨g, cap, cur, h1, h2, (hW.block g h2 (Array.getElem?_eq_some_iff.1 h3).1).trans h3, h4⟩⟩⟩
/-- A row that was written anew, in the range in which it lay. -/
theorem Sp.again {w : World} {lo hi s n : Nat} {t : TypeId} {v : Value} {xs : List Value} (h : w.ownsRow lo t s v n xs) (hlt : ∀ k, v.ownBlock = some k → k < hi) (hh : hi ≤ w.heap.size) : Sp lo hi (fun W => W.ownsRow lo t s v n xs) w :=
  ⟨hh, fun W hW => ⟨h.1, by
    rcases h.2 with h2 | ⟨g, cap, cur, h1, h2, h3, h4⟩
    · exact .inl h2
    · exact .inr ⟨g, cap, cur, h1, h2, (hW.block g h2 (hlt g (by rw [h1]; rfl))).trans h3, h4⟩⟩⟩
theorem own_range {w : World} {lo s n : Nat} {t : TypeId} {v : Value} {xs : List Value} (h : w.ownsRow lo t s v n xs) : ∀ k, v.ownBlock = some k → lo ≤ k ∧ k < w.heap.size := h.lt
theorem below_drN_r {B : Nat} {a w : World} (h : Below B a w) (n : Nat) : Below B a (w.drewN n) := ⟨h.os, h.tape, h.output, h.size, h.block⟩
end Go.Proofs.YtkbkgbhnfopgnaaDoor
