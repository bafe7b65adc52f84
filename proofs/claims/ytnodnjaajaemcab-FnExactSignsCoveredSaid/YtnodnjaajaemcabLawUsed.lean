/-
  The law of RulesUsed: its call answers true.
-/
import Derived.Test.YtnodnjaajaemcabUsedS
import Derived.Test.YtnodnjaajaemcabMarkR
import Derived.Test.YtnodnjaajaemcabLawIsTable
namespace Go.Proofs.Ytnodnjaajaemcab
set_option linter.unusedVariables false
open Go.RowKit

theorem row_frame {S : List Nat} {w w' : World} {B s n c : Nat} {T : TypeId} {A : Option Addr} {xs : List Value} (h : w.ownsRow B T s (.slice A n c) n xs) (hf : FrameR S w w') (hS : ∀ b ∈ S, b < B) : w'.ownsRow B T s (.slice A n c) n xs := by
  refine ⟨h.1, ?_⟩
  rcases h.2 with h2 | ⟨g, cap, cur, e1, e2, e3, e4⟩
  · exact .inl h2
  · exact .inr ⟨g, cap, cur, e1, e2, (hf.block g (Array.getElem?_eq_some_iff.1 e3).1 (fun hm => by have := hS g hm; omega)).trans e3, e4⟩
theorem row_grown {w w' : World} {B s n c : Nat} {T : TypeId} {A : Option Addr} {xs : List Value} {r : Option Nat} (h : w.ownsRow B T s (.slice A n c) n xs) (hf : w.grownBy w' r) (hS : ∀ b, r = some b → b < B) : w'.ownsRow B T s (.slice A n c) n xs := by
  refine ⟨h.1, ?_⟩
  rcases h.2 with h2 | ⟨g, cap, cur, e1, e2, e3, e4⟩
  · exact .inl h2
  · exact .inr ⟨g, cap, cur, e1, e2, (hf.block g (Array.getElem?_eq_some_iff.1 e3).1 (fun hm => by have := hS g hm.symm; omega)).trans e3, e4⟩
theorem below_grownR {w a w' : World} {r : Option Nat} {B : Nat} (h : Below B a w) (hf : w.grownBy w' r) (hS : ∀ b, r = some b → B ≤ b) (hB : B ≤ w.heap.size) : Below B a w' := h.grown hf hB hS
theorem RowI.num {w : World} {A : Option Addr} {n c : Nat} {xs : List Int} (h : RowI w A n c xs) : NumAt w w.heap.size A n xs :=
  ⟨h.len.symm, fun hp => by
    obtain ⟨g, e1, h1, h2⟩ := h.cells hp
    exact ⟨g, 0, e1, h1, fun j x hx => by rw [Nat.zero_add]; exact h2 j x hx⟩⟩
theorem markI_at {w w' : World} {B n c k : Nat} {A : Option Addr} {xs : List Int} {e : Ending} (h : w.ownsRow B 2 1 (.slice A n c) n (intV xs)) (hm : MarkIPost A n c k w e w') : ∀ b, (Value.slice A n c).ownBlock = some b → B ≤ b := fun b hb => (h.lt b hb).1
theorem totR_bulk {es : List El} {rs : List Ru} {n : Nat} (he : rulesOf es = rs) (hn : n + bulk rs ≤ 1048576) (hl : es.length = n) : totR es ≤ 1048576 := by
  have key : ∀ l : List El, totR l ≤ bulk (rulesOf l) + l.length := by
    intro l
    induction l with
    | nil => simp [totR, bulk, rulesOf]
    | cons e l ih =>
      have h1 : totR (e :: l) = (e.2.2.1.length + 1) + totR l := by simp [totR]
      have h2 : bulk (rulesOf (e :: l)) = (e.2.2.1.length + e.2.2.2.size) + bulk (rulesOf l) := by simp [bulk, rulesOf]
      rw [h1, h2, List.length_cons]; omega
  have := key es
  rw [he] at this
  omega

end Go.Proofs.Ytnodnjaajaemcab
