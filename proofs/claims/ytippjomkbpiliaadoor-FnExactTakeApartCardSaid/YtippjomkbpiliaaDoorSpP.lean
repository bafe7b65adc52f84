/-
  The laws' helper eqParts, and boxes of parts as facts that are carried.
-/
import Derived.Test.YtippjomkbpiliaaDoorSp
import Derived.Test.YtippjomkbpiliaaDoorPtPlain
namespace Go.Proofs.YtippjomkbpiliaaDoor
set_option linter.unusedVariables false
open Go.RowKit

def PBs (b : Nat) (s t : ByteArray) (W : World) : Prop := W.cell? ⟨b, 0, none⟩ = some (.string s) ∧ W.cell? ⟨b, 1, none⟩ = some (.string t)
theorem Sp.pb (w : World) (s t : ByteArray) : Sp 0 (w.alloc (.cells #[.string s, .string t] 28)).heap.size (PBs w.heap.size s t) (w.alloc (.cells #[.string s, .string t] 28)) :=
  ⟨Nat.le_refl _, fun W hW => by
    have h := (PB.new w s t).below hW.below
    exact ⟨h.1.2.1, h.1.2.2⟩⟩
theorem cEqParts (x y : ByteArray) (w : World) :
    Calls Tryd.prog 22 #[.agg #[.string x, .string y], .agg #[.string x, .string y]] w fun e w' => e = .returned (.bool true) ∧ Below w.heap.size w w' := by
  go_enter Tryd.func22, Tryd.ntmps22
  go_wp2
  go_ret
  exact ⟨rfl, ((Below.refl _ _).alloc (Nat.le_refl _) _).alloc (by simp) _⟩
end Go.Proofs.YtippjomkbpiliaaDoor
