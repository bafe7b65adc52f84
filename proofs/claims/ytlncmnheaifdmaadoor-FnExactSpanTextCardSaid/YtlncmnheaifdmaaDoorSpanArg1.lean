/-
  What a walk is told of a span that came in by value, and of a slice of spans that came in: its spans as a list of pairs.
-/
import Derived.Test.YtlncmnheaifdmaaDoorSpanPlain
import Derived.Below
import Derived.Deep.Slices
import Derived.Deep.Fields
import Derived.ChangeSame
import Derived.Lib.SmallJoins
import Derived.Deep.AppendLies
import Derived.Laws.OwnMore
import Derived.WalkKit
import Derived.Test.YtlncmnheaifdmaaDoorChecked
namespace Go.Proofs.YtlncmnheaifdmaaDoor
set_option linter.unusedVariables false
open Go.ChangeShapes Go.WideShapes Go.Deep Go.RowKit

section
variable {H : Type} {enc : TypeId × Value → H} {w : World} {base : Nat} {spare : Nat → Bool} {held : Bool}
set_option maxRecDepth 100000 in
theorem openSpan {r : Reach} {b0 : Nat} {v : Value} {d : DataW H} {p : List MemPlace} (hv : Value.okWide Tryd.prog w r b0 51 v) (h : DataW.Trod enc Tryd.prog w base spare held 51 v d p) :
    ∃ x y : Int, v = .agg #[.int .i64 x, .int .i64 y] ∧ (Lit.int .i64 x).wf = true ∧ (Lit.int .i64 y).wf = true := by
  obtain ⟨v0, v1, y0, y1, n, rfl, _, _, h0, h1⟩ := Joins.open_agg2 Tryd.underlying51 (by kernel_rfl) (by kernel_rfl) hv h
  obtain ⟨x, hx, _, wx⟩ := DataW.trod_int Tryd.underlying2 h0
  obtain ⟨y, hy, _, wy⟩ := DataW.trod_int Tryd.underlying2 h1
  injection hx with hx _
  injection hy with hy _
  subst hx; subst hy
  exact ⟨x, y, rfl, wx, wy⟩
end
end Go.Proofs.YtlncmnheaifdmaaDoor
