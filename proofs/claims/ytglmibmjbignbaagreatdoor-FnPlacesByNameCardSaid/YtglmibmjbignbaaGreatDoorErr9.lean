/-
  What the rows' lists of laid variables give the walks: the variables of the errors hold errors; errors.errorType holds the handle of 'error'.
-/
import Derived.Test.YtglmibmjbignbaaGreatDoorMy1
import Derived.Test.YtglmibmjbignbaaGreatDoorChecked
import Derived.Stop.LaidErr
import Derived.LaidSub
import Derived.LaidLaws
import Derived.ProofKit
namespace Go.Proofs.YtglmibmjbignbaaGreatDoor
set_option linter.unusedVariables false
open Go.RowKit Go.ChangeShapes

/-- The variable holds an error. -/
def Ev (g : Nat) (w : World) : Prop := ∃ v, w.cell? ⟨g, 0, none⟩ = some (.iface 257 v)
theorem Ev.below {g : Nat} {w w' : World} (h : Ev g w) (hb : Below w.heap.size w w') : Ev g w' := by
  obtain ⟨v, hv⟩ := h
  exact ⟨v, (hb.cell (p := ⟨g, 0, none⟩) (World.block_lt_of_cell? w _ hv)).trans hv⟩
structure Er4 (w : World) : Prop where
  p : Ev 6 w
  l : Ev 3 w
  s : Ev 7 w
  y : Ev 8 w
theorem Er4.below {w w' : World} (h : Er4 w) (hb : Below w.heap.size w w') : Er4 w' := ⟨h.p.below hb, h.l.below hb, h.s.below hb, h.y.below hb⟩
structure Er6 (w : World) : Prop where
  e : Er4 w
  m : Ev 1 w
  n : Ev 2 w
theorem Er6.below {w w' : World} (h : Er6 w) (hb : Below w.heap.size w w') : Er6 w' := ⟨h.e.below hb, h.m.below hb, h.n.below hb⟩
def Et (w : World) : Prop := w.cell? ⟨5, 0, none⟩ = some (.iface 239 (.agg #[.pointer (some ⟨12, 181, none⟩)]))
theorem Et.below {w w' : World} (h : Et w) (hb : Below w.heap.size w w') : Et w' := (hb.cell (p := ⟨5, 0, none⟩) (World.block_lt_of_cell? w _ h)).trans h
structure Er7 (w : World) : Prop where
  e : Er6 w
  q : Ev 4 w
  t : Et w
theorem Er7.below {w w' : World} (h : Er7 w) (hb : Below w.heap.size w w') : Er7 w' := ⟨h.e.below hb, h.q.below hb, h.t.below hb⟩
structure Er8 (w : World) : Prop where
  e : Er7 w
  k : Ev 0 w
theorem Er8.below {w w' : World} (h : Er8 w) (hb : Below w.heap.size w w') : Er8 w' := ⟨h.e.below hb, h.k.below hb⟩
theorem err_star : "*" ++ "errors.errorString" = "*errors.errorString" := by decide
theorem err_row (u : TypeId) (h : Tryz.prog.typeName? 3 u = some "*errors.errorString") : u = 257 :=
  typeName_ptr_named (nm := "errors.errorString") (by rw [err_star]; kernel_rfl) (by kernel_rfl) (by decide) u (by rw [err_star]; exact h)
theorem laidMet_mem9 {P : Program} {x : String × DataW Unit} : ∀ (l : List (String × DataW Unit)) {w : World}, laidMet P l w → x ∈ l → ∃ r, laidMet P (x :: r) w
  | [], _, _, hm => by simp at hm
  | y :: r, w, h, hm => by
    rw [List.mem_cons] at hm
    rcases hm with rfl | hm
    · exact ⟨r, h⟩
    · exact laidMet_mem9 r h.tail hm
theorem laid_plain {laid : List (String × DataW Unit)} {W : World} {n : String} {d : DataW Unit} (h : laidMetH Tryz.prog laid W) (hm : (n, d) ∈ laid) (hn : d.handleName?.isNone = true) : ∃ r, laidMet Tryz.prog ((n, d) :: r) W :=
  laidMet_mem9 _ (laidMetH_iff.1 h).1 (List.mem_filter.2 ⟨hm, hn⟩)
theorem laid_ev {laid : List (String × DataW Unit)} {W : World} {n : String} {g : Nat} {t : List UInt8} (h : laidMetH Tryz.prog laid W) (hm : (n, .iface "*errors.errorString" (.ptr (.agg [.lit (.string t)]))) ∈ laid)
    (hg : Tryz.prog.globalNamed n = some g) (ht : (Tryz.prog.globals[g]?).map (·.type) = some 181) : Ev g W := by
  obtain ⟨r, k⟩ := laid_plain h hm (by kernel_rfl)
  obtain ⟨a, s, v, _⟩ := laid_sentinel k hg ht Tryz.underlying181 err_row Tryz.underlying257 Tryz.underlying278 rfl rfl Tryz.underlying9 (by kernel_rfl) (by kernel_rfl)
  exact ⟨_, by simpa using World.var?_cell hg v 0⟩
theorem rt9 : (Tryz.prog.cutTypes.find? (·.1 == "internal/reflectlite.rtype")).map (·.2) = some 239 := by kernel_rfl
theorem oneRow9 : ((List.range Tryz.prog.types.size).filter fun t => Tryz.prog.rowNamed t [101, 114, 114, 111, 114]) = [181] := by kernel_rfl
theorem laid_et {laid : List (String × DataW Unit)} {W : World} (h : laidMetH Tryz.prog laid W) (hm : ("errors.errorType", .iface "internal/reflectlite.rtype" (.agg [.ptr (.lit (.string [101, 114, 114, 111, 114]))])) ∈ laid) : Et W := by
  have h2 := (laidMetH_iff.1 h).2 _ (List.mem_filter.2 ⟨hm, by kernel_rfl⟩)
  obtain ⟨name, u, ty, e1, e2, e3, e4, e5⟩ := h2
  have en : name = [101, 114, 114, 111, 114] := (Option.some.inj e1).symm
  subst en
  obtain rfl := Option.some.inj (rt9.symm.trans e2)
  have hm : ty ∈ (List.range Tryz.prog.types.size).filter fun t => Tryz.prog.rowNamed t [101, 114, 114, 111, 114] := List.mem_filter.2 ⟨List.mem_range.2 e3, e4⟩
  rw [oneRow9] at hm
  obtain rfl := List.mem_singleton.1 hm
  have hh : typeHandle Tryz.prog 181 = .pointer (some ⟨12, 181, none⟩) := by kernel_rfl
  rw [hh] at e5
  unfold Et
  simpa using World.var?_cell (P := Tryz.prog) (g := 5) (by kernel_rfl) e5 0
end Go.Proofs.YtglmibmjbignbaaGreatDoor
