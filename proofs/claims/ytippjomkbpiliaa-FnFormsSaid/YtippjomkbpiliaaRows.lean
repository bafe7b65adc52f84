/-
  No cell of these rows narrows 'for every input' (looked for: loops, veiled, ifaces, maps, wideKeys, modest, calm, conditions, laid).
  DERIVED. THE GIVEN ROWS OF THIS SEAT. 6 by the template 'for every input the law returns true; each argument reads behind the call as it read before'; 0 by the template 'total and deterministic' (their statements: YtippjomkbpiliaaTotals.lean).
  GIVEN WITH THE SEED: the statements are not yours to turn. If you find one false, say at which input.
  Laid BY PROGRAM, IN A SANDBOX (cutbox-rows.mjs): the forced cells as the released guide's own fill.sh prints them over the translation c11e744f09758d75… (all of the seat's roots in one cut). By AI agents, Wed Nov 11 2026. No macro, syntax, notation, axiom, sorry.
-/
import Derived.Test.YtippjomkbpiliaaChecked
import GoSem.Claim
import GoSem.ClaimJoined
import GoSem.ClaimMapViews
import Derived.JoinedTies
import Derived.KernelRfl
namespace Go.Proofs.Ytippjomkbpiliaa
/- THE CELL 'sum', in the pinned program and in every row, IS THE sha256 OF THE DUMP (.gsa) THAT YtippjomkbpiliaaProg.lean LOADS. Nothing in Lean hashes anything: it is a label: what it is worth is what the hold of that sum in a sandbox is worth. -/
noncomputable def Try.pinned : Pinned := { name := "ytippjomkbpiliaa", sum := "c11e744f09758d7524ca4a8e915347d587ccc41c9e4732db3077cff4774bab93", checked := Try.checked }
namespace Rows
def none {H : Type} : Left H := { results := [], args := [] }

/-- 'laws.FnForms': WHATEVER THE INPUT: true; the input reads as it did. -/
def fnFormsSpec : ChangeSpec := { name := "fnForms", fn := fun _ => fun
  | [d] => { results := [.lit (.bool true)], args := [d] }
  | _ => none }
def fnFormsRow : OpenClaim := { program := "ytippjomkbpiliaa", sum := "c11e744f09758d7524ca4a8e915347d587ccc41c9e4732db3077cff4774bab93", func := "loop.example/g01030/laws.FnForms", spec := "fnForms", unfollowed := true, recurses := true, apart := false }
def FnFormsSaid : Prop := fnFormsRow.holds Try.pinned (OpenSpec.ofChange fnFormsSpec)

/-- ITS FALSE NEIGHBOUR: 'it returns false'. Refute it at one input. -/
def fnFormsWrong : ChangeSpec := { name := "fnForms", fn := fun _ => fun
  | [d] => { results := [.lit (.bool false)], args := [d] }
  | _ => none }
def FnFormsWrongFalsely : Prop := fnFormsRow.holds Try.pinned (OpenSpec.ofChange fnFormsWrong)

/-- 'laws.FnExactIsEndingTable': WHATEVER THE INPUT: true; the input reads as it did. -/
def fnExactIsEndingTableSpec : ChangeSpec := { name := "fnExactIsEndingTable", fn := fun _ => fun
  | [d] => { results := [.lit (.bool true)], args := [d] }
  | _ => none }
def fnExactIsEndingTableRow : OpenClaim := { program := "ytippjomkbpiliaa", sum := "c11e744f09758d7524ca4a8e915347d587ccc41c9e4732db3077cff4774bab93", func := "loop.example/g01030/laws.FnExactIsEndingTable", spec := "fnExactIsEndingTable", apart := false }
def FnExactIsEndingTableSaid : Prop := fnExactIsEndingTableRow.holds Try.pinned (OpenSpec.ofChange fnExactIsEndingTableSpec)

/-- ITS FALSE NEIGHBOUR: 'it returns false'. Refute it at one input. -/
def fnExactIsEndingTableWrong : ChangeSpec := { name := "fnExactIsEndingTable", fn := fun _ => fun
  | [d] => { results := [.lit (.bool false)], args := [d] }
  | _ => none }
def FnExactIsEndingTableWrongFalsely : Prop := fnExactIsEndingTableRow.holds Try.pinned (OpenSpec.ofChange fnExactIsEndingTableWrong)

/-- 'laws.FnExactFormsOf': WHATEVER THE INPUT: true; the input reads as it did. -/
def fnExactFormsOfSpec : ChangeSpec := { name := "fnExactFormsOf", fn := fun _ => fun
  | [d1, d2] => { results := [.lit (.bool true)], args := [d1, d2] }
  | _ => none }
def fnExactFormsOfRow : OpenClaim := { program := "ytippjomkbpiliaa", sum := "c11e744f09758d7524ca4a8e915347d587ccc41c9e4732db3077cff4774bab93", func := "loop.example/g01030/laws.FnExactFormsOf", spec := "fnExactFormsOf", unfollowed := true, recurses := true, apart := false }
def FnExactFormsOfSaid : Prop := fnExactFormsOfRow.holds Try.pinned (OpenSpec.ofChange fnExactFormsOfSpec)

/-- ITS FALSE NEIGHBOUR: 'it returns false'. Refute it at one input. -/
def fnExactFormsOfWrong : ChangeSpec := { name := "fnExactFormsOf", fn := fun _ => fun
  | [d1, d2] => { results := [.lit (.bool false)], args := [d1, d2] }
  | _ => none }
def FnExactFormsOfWrongFalsely : Prop := fnExactFormsOfRow.holds Try.pinned (OpenSpec.ofChange fnExactFormsOfWrong)

/-- 'laws.FnExactBasesOf': WHATEVER THE INPUT: true; the input reads as it did. -/
def fnExactBasesOfSpec : ChangeSpec := { name := "fnExactBasesOf", fn := fun _ => fun
  | [d1, d2] => { results := [.lit (.bool true)], args := [d1, d2] }
  | _ => none }
def fnExactBasesOfRow : OpenClaim := { program := "ytippjomkbpiliaa", sum := "c11e744f09758d7524ca4a8e915347d587ccc41c9e4732db3077cff4774bab93", func := "loop.example/g01030/laws.FnExactBasesOf", spec := "fnExactBasesOf", unfollowed := true, recurses := true, apart := false }
def FnExactBasesOfSaid : Prop := fnExactBasesOfRow.holds Try.pinned (OpenSpec.ofChange fnExactBasesOfSpec)

/-- ITS FALSE NEIGHBOUR: 'it returns false'. Refute it at one input. -/
def fnExactBasesOfWrong : ChangeSpec := { name := "fnExactBasesOf", fn := fun _ => fun
  | [d1, d2] => { results := [.lit (.bool false)], args := [d1, d2] }
  | _ => none }
def FnExactBasesOfWrongFalsely : Prop := fnExactBasesOfRow.holds Try.pinned (OpenSpec.ofChange fnExactBasesOfWrong)

/-- 'laws.FnExactCasesOf': WHATEVER THE INPUT: true; the input reads as it did. -/
def fnExactCasesOfSpec : ChangeSpec := { name := "fnExactCasesOf", fn := fun _ => fun
  | [d1, d2, d3] => { results := [.lit (.bool true)], args := [d1, d2, d3] }
  | _ => none }
def fnExactCasesOfRow : OpenClaim := { program := "ytippjomkbpiliaa", sum := "c11e744f09758d7524ca4a8e915347d587ccc41c9e4732db3077cff4774bab93", func := "loop.example/g01030/laws.FnExactCasesOf", spec := "fnExactCasesOf", unfollowed := true, recurses := true, apart := false }
def FnExactCasesOfSaid : Prop := fnExactCasesOfRow.holds Try.pinned (OpenSpec.ofChange fnExactCasesOfSpec)

/-- ITS FALSE NEIGHBOUR: 'it returns false'. Refute it at one input. -/
def fnExactCasesOfWrong : ChangeSpec := { name := "fnExactCasesOf", fn := fun _ => fun
  | [d1, d2, d3] => { results := [.lit (.bool false)], args := [d1, d2, d3] }
  | _ => none }
def FnExactCasesOfWrongFalsely : Prop := fnExactCasesOfRow.holds Try.pinned (OpenSpec.ofChange fnExactCasesOfWrong)

/-- 'laws.FnExactAreGenerics': WHATEVER THE INPUT: true; the input reads as it did. -/
def fnExactAreGenericsSpec : ChangeSpec := { name := "fnExactAreGenerics", fn := fun _ => fun
  | [d] => { results := [.lit (.bool true)], args := [d] }
  | _ => none }
def fnExactAreGenericsRow : OpenClaim := { program := "ytippjomkbpiliaa", sum := "c11e744f09758d7524ca4a8e915347d587ccc41c9e4732db3077cff4774bab93", func := "loop.example/g01030/laws.FnExactAreGenerics", spec := "fnExactAreGenerics", unfollowed := true, recurses := true, apart := false }
def FnExactAreGenericsSaid : Prop := fnExactAreGenericsRow.holds Try.pinned (OpenSpec.ofChange fnExactAreGenericsSpec)

/-- ITS FALSE NEIGHBOUR: 'it returns false'. Refute it at one input. -/
def fnExactAreGenericsWrong : ChangeSpec := { name := "fnExactAreGenerics", fn := fun _ => fun
  | [d] => { results := [.lit (.bool false)], args := [d] }
  | _ => none }
def FnExactAreGenericsWrongFalsely : Prop := fnExactAreGenericsRow.holds Try.pinned (OpenSpec.ofChange fnExactAreGenericsWrong)

/- THE SECOND FORM. 'bulk': how many values and letters a reading holds, each counted each time it is reached (what is shared counts as often as it is met; a slice's spare places count too). A statement '..UptoSaid' is the law's where the arguments, and the package variables that the reading takes, are together of bulk at most 1048576: NARROWER than '..Said'. Prove '..Said' where nothing that the law and all that it calls make is longer than what came in: it says more and counts as full. Else prove '..UptoSaid'. A law counts once. -/
mutual
def uptoBulk {H : Type} : DataW H → Nat
  | .lit (.string bytes) => bytes.length + 1
  | .lit _ => 1
  | .nil => 1
  | .ptr d => uptoBulk d + 1
  | .slice elems spare => uptoBulkAll elems + uptoBulkAll spare + 1
  | .agg parts => uptoBulkAll parts + 1
  | .iface _ d => uptoBulk d + 1
  | .map entries => uptoBulkEntries entries + 1
  | .held _ => 1
def uptoBulkAll {H : Type} : List (DataW H) → Nat
  | [] => 0
  | d :: r => uptoBulk d + uptoBulkAll r
def uptoBulkEntries {H : Type} : List (Lit × DataW H) → Nat
  | [] => 0
  | x :: r => uptoBulkEntry x + uptoBulkEntries r
def uptoBulkEntry {H : Type} : Lit × DataW H → Nat
  | (.string bytes, d) => bytes.length + uptoBulk d + 1
  | (_, d) => uptoBulk d + 1
 end
def uptoSmall : (H : Type) → List (DataW H) → Bool := fun _ ds => decide (uptoBulkAll ds ≤ 1048576)
def OpenSpec.upto (s : _root_.Go.ChangeSpec) : _root_.Go.OpenSpec := { _root_.Go.OpenSpec.ofChange s with cond := some uptoSmall }

/-- 'laws.FnForms', WHERE WHAT IT READS IS OF BULK AT MOST 1048576: true; the input reads as it did. -/
def fnFormsUptoRow : OpenClaim := { program := "ytippjomkbpiliaa", sum := "c11e744f09758d7524ca4a8e915347d587ccc41c9e4732db3077cff4774bab93", func := "loop.example/g01030/laws.FnForms", spec := "fnForms", unfollowed := true, recurses := true, apart := false, narrowed := true }
def FnFormsUptoSaid : Prop := fnFormsUptoRow.holds Try.pinned (OpenSpec.upto fnFormsSpec)

/-- 'laws.FnExactIsEndingTable', WHERE WHAT IT READS IS OF BULK AT MOST 1048576: true; the input reads as it did. -/
def fnExactIsEndingTableUptoRow : OpenClaim := { program := "ytippjomkbpiliaa", sum := "c11e744f09758d7524ca4a8e915347d587ccc41c9e4732db3077cff4774bab93", func := "loop.example/g01030/laws.FnExactIsEndingTable", spec := "fnExactIsEndingTable", apart := false, narrowed := true }
def FnExactIsEndingTableUptoSaid : Prop := fnExactIsEndingTableUptoRow.holds Try.pinned (OpenSpec.upto fnExactIsEndingTableSpec)

/-- 'laws.FnExactFormsOf', WHERE WHAT IT READS IS OF BULK AT MOST 1048576: true; the input reads as it did. -/
def fnExactFormsOfUptoRow : OpenClaim := { program := "ytippjomkbpiliaa", sum := "c11e744f09758d7524ca4a8e915347d587ccc41c9e4732db3077cff4774bab93", func := "loop.example/g01030/laws.FnExactFormsOf", spec := "fnExactFormsOf", unfollowed := true, recurses := true, apart := false, narrowed := true }
def FnExactFormsOfUptoSaid : Prop := fnExactFormsOfUptoRow.holds Try.pinned (OpenSpec.upto fnExactFormsOfSpec)

/-- 'laws.FnExactBasesOf', WHERE WHAT IT READS IS OF BULK AT MOST 1048576: true; the input reads as it did. -/
def fnExactBasesOfUptoRow : OpenClaim := { program := "ytippjomkbpiliaa", sum := "c11e744f09758d7524ca4a8e915347d587ccc41c9e4732db3077cff4774bab93", func := "loop.example/g01030/laws.FnExactBasesOf", spec := "fnExactBasesOf", unfollowed := true, recurses := true, apart := false, narrowed := true }
def FnExactBasesOfUptoSaid : Prop := fnExactBasesOfUptoRow.holds Try.pinned (OpenSpec.upto fnExactBasesOfSpec)

/-- 'laws.FnExactCasesOf', WHERE WHAT IT READS IS OF BULK AT MOST 1048576: true; the input reads as it did. -/
def fnExactCasesOfUptoRow : OpenClaim := { program := "ytippjomkbpiliaa", sum := "c11e744f09758d7524ca4a8e915347d587ccc41c9e4732db3077cff4774bab93", func := "loop.example/g01030/laws.FnExactCasesOf", spec := "fnExactCasesOf", unfollowed := true, recurses := true, apart := false, narrowed := true }
def FnExactCasesOfUptoSaid : Prop := fnExactCasesOfUptoRow.holds Try.pinned (OpenSpec.upto fnExactCasesOfSpec)

/-- 'laws.FnExactAreGenerics', WHERE WHAT IT READS IS OF BULK AT MOST 1048576: true; the input reads as it did. -/
def fnExactAreGenericsUptoRow : OpenClaim := { program := "ytippjomkbpiliaa", sum := "c11e744f09758d7524ca4a8e915347d587ccc41c9e4732db3077cff4774bab93", func := "loop.example/g01030/laws.FnExactAreGenerics", spec := "fnExactAreGenerics", unfollowed := true, recurses := true, apart := false, narrowed := true }
def FnExactAreGenericsUptoSaid : Prop := fnExactAreGenericsUptoRow.holds Try.pinned (OpenSpec.upto fnExactAreGenericsSpec)

end Rows
end Go.Proofs.Ytippjomkbpiliaa
