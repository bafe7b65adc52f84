/-
  What the rows' lists of laid variables give the walks: the variables of the errors hold errors; errors.errorType holds the handle of 'error'.
-/
import Derived.Test.YtkbkgbhnfopgnaaDoorMq1
import Derived.Test.YtkbkgbhnfopgnaaDoorChecked
import Derived.Stop.LaidErr
import Derived.LaidSub
import Derived.LaidLaws
import Derived.ProofKit
namespace Go.Proofs.YtkbkgbhnfopgnaaDoor
set_option linter.unusedVariables false
open Go.RowKit Go.ChangeShapes

/-- The variable holds an error. -/
def Ev (g : Nat) (w : World) : Prop := ∃ v, w.cell? ⟨g, 0, none⟩ = some (.iface 135 v)
theorem Ev.below {g : Nat} {w w' : World} (h : Ev g w) (hb : Below w.heap.size w w') : Ev g w' := by
  obtain ⟨v, hv⟩ := h
  exact ⟨v, (hb.cell (p := ⟨g, 0, none⟩) (World.block_lt_of_cell? w _ hv)).trans hv⟩
structure Er4 (w : World) : Prop where
  p : Ev 2 w
  l : Ev 3 w
  s : Ev 4 w
  y : Ev 5 w
theorem Er4.below {w w' : World} (h : Er4 w) (hb : Below w.heap.size w w') : Er4 w' := ⟨h.p.below hb, h.l.below hb, h.s.below hb, h.y.below hb⟩
structure Er6 (w : World) : Prop where
  e : Er4 w
  m : Ev 0 w
  n : Ev 1 w
theorem Er6.below {w w' : World} (h : Er6 w) (hb : Below w.heap.size w w') : Er6 w' := ⟨h.e.below hb, h.m.below hb, h.n.below hb⟩
theorem err_star : "*" ++ "errors.errorString" = "*errors.errorString" := by decide
theorem err_row (u : TypeId) (h : Tryd.prog.typeName? 3 u = some "*errors.errorString") : u = 135 :=
  typeName_ptr_named (nm := "errors.errorString") (by rw [err_star]; kernel_rfl) (by kernel_rfl) (by decide) u (by rw [err_star]; exact h)
theorem laidMet_mem9 {P : Program} {x : String × DataW Unit} : ∀ (l : List (String × DataW Unit)) {w : World}, laidMet P l w → x ∈ l → ∃ r, laidMet P (x :: r) w
  | [], _, _, hm => by simp at hm
  | y :: r, w, h, hm => by
    rw [List.mem_cons] at hm
    rcases hm with rfl | hm
    · exact ⟨r, h⟩
    · exact laidMet_mem9 r h.tail hm
theorem laid_plain {laid : List (String × DataW Unit)} {W : World} {n : String} {d : DataW Unit} (h : laidMetH Tryd.prog laid W) (hm : (n, d) ∈ laid) (hn : d.handleName?.isNone = true) : ∃ r, laidMet Tryd.prog ((n, d) :: r) W :=
  laidMet_mem9 _ (laidMetH_iff.1 h).1 (List.mem_filter.2 ⟨hm, hn⟩)
theorem laid_ev {laid : List (String × DataW Unit)} {W : World} {n : String} {g : Nat} {t : List UInt8} (h : laidMetH Tryd.prog laid W) (hm : (n, .iface "*errors.errorString" (.ptr (.agg [.lit (.string t)]))) ∈ laid)
    (hg : Tryd.prog.globalNamed n = some g) (ht : (Tryd.prog.globals[g]?).map (·.type) = some 110) : Ev g W := by
  obtain ⟨r, k⟩ := laid_plain h hm (by kernel_rfl)
  obtain ⟨a, s, v, _⟩ := laid_sentinel k hg ht Tryd.underlying110 err_row Tryd.underlying135 Tryd.underlying152 rfl rfl Tryd.underlying9 (by kernel_rfl) (by kernel_rfl)
  exact ⟨_, by simpa using World.var?_cell hg v 0⟩
theorem oneRow9 : ((List.range Tryd.prog.types.size).filter fun t => Tryd.prog.rowNamed t [101, 114, 114, 111, 114]) = [110] := by kernel_rfl
end Go.Proofs.YtkbkgbhnfopgnaaDoor
