/-
  A region that draws its order, whose operations read and whose callees make memory (nothing that existed is changed): one walk, in the order of the text.
  The class of worlds is given by a letter f : T → World: all worlds above a given one.
-/
import Derived.Test.YtkbkgbhnfopgnaaDoorMq1
import Derived.BigQuiet
import Derived.Deep.QuietTactic
import Derived.Below
import Derived.WalkKit
namespace Go.Proofs.YtkbkgbhnfopgnaaDoor
set_option linter.unusedVariables false
open Go.RowKit

theorem wp_region_class {P : Program} {id : Nat} {Q : Exit → Act → World → Prop} {a : Act} {w : World} {l : List Oper} {T : Type} (f : T → World) (t0 : T) (h0 : f t0 = w.drewN 1) (hm : P.follows .mixedOrders = true) (hB : Region.lexB .any l.toArray = true)
    (h : wpQuiet P l.toArray (fun w' => ∃ t, w' = f t) (fun a' => ∀ w', (∃ t, w' = f t) → Q .normal a' w') l a) : (Code.region id l.toArray true).wp P Q a w :=
  wp_region_quiet (C := fun w' => ∃ t, w' = f t) hm hB ⟨t0, h0.symm⟩ (by simpa using h)

/-- All worlds above W, by a letter. -/
theorem class_of (W : World) : ∃ (T : Type) (f : T → World) (t0 : T), Nonempty T ∧ f t0 = W.drewN 1 ∧ (∀ t, Below W.heap.size W (f t)) ∧ ∀ w', Below W.heap.size W w' → ∃ t, w' = f t :=
  ⟨{ w' : World // Below W.heap.size W w' }, Subtype.val, ⟨W.drewN 1, rfl, rfl, rfl, Nat.le_refl _, fun _ _ => rfl⟩, ⟨⟨W, Below.refl _ _⟩⟩, rfl, fun t => t.2, fun w' h => ⟨⟨w', h⟩, rfl⟩⟩

theorem Calls.class_of {P : Program} {g : FuncId} {args : Array Value} {v : Value} {T : Type} {f : T → World} {W : World} (hf : ∀ t, Below W.heap.size W (f t)) (hb : ∀ w', Below W.heap.size W w' → ∃ t, w' = f t) {t : T}
    (h : Calls P g args (f t) fun e w' => e = .returned v ∧ Below (f t).heap.size (f t) w') : Calls P g args (f t) fun e w' => e = .returned v ∧ ∃ t', w' = f t' :=
  h.mono fun _ _ ⟨he, hw⟩ => ⟨he, hb _ ((hf t).trans (hw.mono (hf t).size))⟩
theorem Calls.class_same {P : Program} {g : FuncId} {args : Array Value} {v : Value} {T : Type} {f : T → World} {t : T}
    (h : Calls P g args (f t) fun e w' => e = .returned v ∧ f t = w') : Calls P g args (f t) fun e w' => e = .returned v ∧ ∃ t', w' = f t' :=
  h.mono fun _ _ ⟨he, hw⟩ => ⟨he, t, hw.symm⟩
end Go.Proofs.YtkbkgbhnfopgnaaDoor
