/-
  No cell of these rows narrows 'for every input' (looked for: loops, veiled, ifaces, maps, wideKeys, modest, calm, conditions, laid).
  DERIVED. THE GIVEN ROWS OF THIS SEAT. 11 by the template 'for every input the law returns true; each argument reads behind the call as it read before'; 0 by the template 'total and deterministic' (their statements: YtlogbgkbdjdkkaaTotals.lean).
  GIVEN WITH THE SEED: the statements are not yours to turn. If you find one false, say at which input.
  Laid BY PROGRAM, IN A SANDBOX (cutbox-rows.mjs): the forced cells as the released guide's own fill.sh prints them over the translation 57c6e65a92e94edc… (all of the seat's roots in one cut). By AI agents, Wed Nov 11 2026. No macro, syntax, notation, axiom, sorry.
-/
import Derived.Test.YtlogbgkbdjdkkaaChecked
import GoSem.Claim
import GoSem.ClaimJoined
import GoSem.ClaimMapViews
import Derived.JoinedTies
import Derived.KernelRfl
namespace Go.Proofs.Ytlogbgkbdjdkkaa
/- THE CELL 'sum', in the pinned program and in every row, IS THE sha256 OF THE DUMP (.gsa) THAT YtlogbgkbdjdkkaaProg.lean LOADS. Nothing in Lean hashes anything: it is a label: what it is worth is what the hold of that sum in a sandbox is worth. -/
noncomputable def Try.pinned : Pinned := { name := "ytlogbgkbdjdkkaa", sum := "57c6e65a92e94edcdc5b5ff646a187d0add97016e3e63d9f61e6f919e76fd24f", checked := Try.checked }
namespace Rows
def none {H : Type} : Left H := { results := [], args := [] }

/-- 'laws.FnClasses': WHATEVER THE INPUT: true; the input reads as it did. -/
def fnClassesSpec : ChangeSpec := { name := "fnClasses", fn := fun _ => fun
  | [d] => { results := [.lit (.bool true)], args := [d] }
  | _ => none }
def fnClassesRow : OpenClaim := { program := "ytlogbgkbdjdkkaa", sum := "57c6e65a92e94edcdc5b5ff646a187d0add97016e3e63d9f61e6f919e76fd24f", func := "loop.example/g01030/laws.FnClasses", spec := "fnClasses", unfollowed := true, recurses := true, apart := false }
def FnClassesSaid : Prop := fnClassesRow.holds Try.pinned (OpenSpec.ofChange fnClassesSpec)

/-- ITS FALSE NEIGHBOUR: 'it returns false'. Refute it at one input. -/
def fnClassesWrong : ChangeSpec := { name := "fnClasses", fn := fun _ => fun
  | [d] => { results := [.lit (.bool false)], args := [d] }
  | _ => none }
def FnClassesWrongFalsely : Prop := fnClassesRow.holds Try.pinned (OpenSpec.ofChange fnClassesWrong)

/-- 'laws.FnTrees': WHATEVER THE INPUT: true; the input reads as it did. -/
def fnTreesSpec : ChangeSpec := { name := "fnTrees", fn := fun _ => fun
  | [d] => { results := [.lit (.bool true)], args := [d] }
  | _ => none }
def fnTreesRow : OpenClaim := { program := "ytlogbgkbdjdkkaa", sum := "57c6e65a92e94edcdc5b5ff646a187d0add97016e3e63d9f61e6f919e76fd24f", func := "loop.example/g01030/laws.FnTrees", spec := "fnTrees", apart := false }
def FnTreesSaid : Prop := fnTreesRow.holds Try.pinned (OpenSpec.ofChange fnTreesSpec)

/-- ITS FALSE NEIGHBOUR: 'it returns false'. Refute it at one input. -/
def fnTreesWrong : ChangeSpec := { name := "fnTrees", fn := fun _ => fun
  | [d] => { results := [.lit (.bool false)], args := [d] }
  | _ => none }
def FnTreesWrongFalsely : Prop := fnTreesRow.holds Try.pinned (OpenSpec.ofChange fnTreesWrong)

/-- 'laws.FnExactIsClassTree': WHATEVER THE INPUT: true; the input reads as it did. -/
def fnExactIsClassTreeSpec : ChangeSpec := { name := "fnExactIsClassTree", fn := fun _ => fun
  | [d] => { results := [.lit (.bool true)], args := [d] }
  | _ => none }
def fnExactIsClassTreeRow : OpenClaim := { program := "ytlogbgkbdjdkkaa", sum := "57c6e65a92e94edcdc5b5ff646a187d0add97016e3e63d9f61e6f919e76fd24f", func := "loop.example/g01030/laws.FnExactIsClassTree", spec := "fnExactIsClassTree", apart := false }
def FnExactIsClassTreeSaid : Prop := fnExactIsClassTreeRow.holds Try.pinned (OpenSpec.ofChange fnExactIsClassTreeSpec)

/-- ITS FALSE NEIGHBOUR: 'it returns false'. Refute it at one input. -/
def fnExactIsClassTreeWrong : ChangeSpec := { name := "fnExactIsClassTree", fn := fun _ => fun
  | [d] => { results := [.lit (.bool false)], args := [d] }
  | _ => none }
def FnExactIsClassTreeWrongFalsely : Prop := fnExactIsClassTreeRow.holds Try.pinned (OpenSpec.ofChange fnExactIsClassTreeWrong)

/-- 'laws.FnExactIsKindOf': WHATEVER THE INPUT: true; the input reads as it did. -/
def fnExactIsKindOfSpec : ChangeSpec := { name := "fnExactIsKindOf", fn := fun _ => fun
  | [d1, d2, d3] => { results := [.lit (.bool true)], args := [d1, d2, d3] }
  | _ => none }
def fnExactIsKindOfRow : OpenClaim := { program := "ytlogbgkbdjdkkaa", sum := "57c6e65a92e94edcdc5b5ff646a187d0add97016e3e63d9f61e6f919e76fd24f", func := "loop.example/g01030/laws.FnExactIsKindOf", spec := "fnExactIsKindOf", apart := false }
def FnExactIsKindOfSaid : Prop := fnExactIsKindOfRow.holds Try.pinned (OpenSpec.ofChange fnExactIsKindOfSpec)

/-- ITS FALSE NEIGHBOUR: 'it returns false'. Refute it at one input. -/
def fnExactIsKindOfWrong : ChangeSpec := { name := "fnExactIsKindOf", fn := fun _ => fun
  | [d1, d2, d3] => { results := [.lit (.bool false)], args := [d1, d2, d3] }
  | _ => none }
def FnExactIsKindOfWrongFalsely : Prop := fnExactIsKindOfRow.holds Try.pinned (OpenSpec.ofChange fnExactIsKindOfWrong)

/-- 'laws.FnExactKindsOf': WHATEVER THE INPUT: true; the input reads as it did. -/
def fnExactKindsOfSpec : ChangeSpec := { name := "fnExactKindsOf", fn := fun _ => fun
  | [d1, d2] => { results := [.lit (.bool true)], args := [d1, d2] }
  | _ => none }
def fnExactKindsOfRow : OpenClaim := { program := "ytlogbgkbdjdkkaa", sum := "57c6e65a92e94edcdc5b5ff646a187d0add97016e3e63d9f61e6f919e76fd24f", func := "loop.example/g01030/laws.FnExactKindsOf", spec := "fnExactKindsOf", apart := false }
def FnExactKindsOfSaid : Prop := fnExactKindsOfRow.holds Try.pinned (OpenSpec.ofChange fnExactKindsOfSpec)

/-- ITS FALSE NEIGHBOUR: 'it returns false'. Refute it at one input. -/
def fnExactKindsOfWrong : ChangeSpec := { name := "fnExactKindsOf", fn := fun _ => fun
  | [d1, d2] => { results := [.lit (.bool false)], args := [d1, d2] }
  | _ => none }
def FnExactKindsOfWrongFalsely : Prop := fnExactKindsOfRow.holds Try.pinned (OpenSpec.ofChange fnExactKindsOfWrong)

/-- 'laws.FnExactSubclassesOf': WHATEVER THE INPUT: true; the input reads as it did. -/
def fnExactSubclassesOfSpec : ChangeSpec := { name := "fnExactSubclassesOf", fn := fun _ => fun
  | [d1, d2] => { results := [.lit (.bool true)], args := [d1, d2] }
  | _ => none }
def fnExactSubclassesOfRow : OpenClaim := { program := "ytlogbgkbdjdkkaa", sum := "57c6e65a92e94edcdc5b5ff646a187d0add97016e3e63d9f61e6f919e76fd24f", func := "loop.example/g01030/laws.FnExactSubclassesOf", spec := "fnExactSubclassesOf", unfollowed := true, recurses := true, apart := false }
def FnExactSubclassesOfSaid : Prop := fnExactSubclassesOfRow.holds Try.pinned (OpenSpec.ofChange fnExactSubclassesOfSpec)

/-- ITS FALSE NEIGHBOUR: 'it returns false'. Refute it at one input. -/
def fnExactSubclassesOfWrong : ChangeSpec := { name := "fnExactSubclassesOf", fn := fun _ => fun
  | [d1, d2] => { results := [.lit (.bool false)], args := [d1, d2] }
  | _ => none }
def FnExactSubclassesOfWrongFalsely : Prop := fnExactSubclassesOfRow.holds Try.pinned (OpenSpec.ofChange fnExactSubclassesOfWrong)

/-- 'laws.FnExactCommonKind': WHATEVER THE INPUT: true; the input reads as it did. -/
def fnExactCommonKindSpec : ChangeSpec := { name := "fnExactCommonKind", fn := fun _ => fun
  | [d1, d2, d3] => { results := [.lit (.bool true)], args := [d1, d2, d3] }
  | _ => none }
def fnExactCommonKindRow : OpenClaim := { program := "ytlogbgkbdjdkkaa", sum := "57c6e65a92e94edcdc5b5ff646a187d0add97016e3e63d9f61e6f919e76fd24f", func := "loop.example/g01030/laws.FnExactCommonKind", spec := "fnExactCommonKind", apart := false }
def FnExactCommonKindSaid : Prop := fnExactCommonKindRow.holds Try.pinned (OpenSpec.ofChange fnExactCommonKindSpec)

/-- ITS FALSE NEIGHBOUR: 'it returns false'. Refute it at one input. -/
def fnExactCommonKindWrong : ChangeSpec := { name := "fnExactCommonKind", fn := fun _ => fun
  | [d1, d2, d3] => { results := [.lit (.bool false)], args := [d1, d2, d3] }
  | _ => none }
def FnExactCommonKindWrongFalsely : Prop := fnExactCommonKindRow.holds Try.pinned (OpenSpec.ofChange fnExactCommonKindWrong)

/-- 'laws.FnExactDistanceOf': WHATEVER THE INPUT: true; the input reads as it did. -/
def fnExactDistanceOfSpec : ChangeSpec := { name := "fnExactDistanceOf", fn := fun _ => fun
  | [d1, d2, d3] => { results := [.lit (.bool true)], args := [d1, d2, d3] }
  | _ => none }
def fnExactDistanceOfRow : OpenClaim := { program := "ytlogbgkbdjdkkaa", sum := "57c6e65a92e94edcdc5b5ff646a187d0add97016e3e63d9f61e6f919e76fd24f", func := "loop.example/g01030/laws.FnExactDistanceOf", spec := "fnExactDistanceOf", apart := false }
def FnExactDistanceOfSaid : Prop := fnExactDistanceOfRow.holds Try.pinned (OpenSpec.ofChange fnExactDistanceOfSpec)

/-- ITS FALSE NEIGHBOUR: 'it returns false'. Refute it at one input. -/
def fnExactDistanceOfWrong : ChangeSpec := { name := "fnExactDistanceOf", fn := fun _ => fun
  | [d1, d2, d3] => { results := [.lit (.bool false)], args := [d1, d2, d3] }
  | _ => none }
def FnExactDistanceOfWrongFalsely : Prop := fnExactDistanceOfRow.holds Try.pinned (OpenSpec.ofChange fnExactDistanceOfWrong)

/-- 'laws.FnExactLeavesOf': WHATEVER THE INPUT: true; the input reads as it did. -/
def fnExactLeavesOfSpec : ChangeSpec := { name := "fnExactLeavesOf", fn := fun _ => fun
  | [d] => { results := [.lit (.bool true)], args := [d] }
  | _ => none }
def fnExactLeavesOfRow : OpenClaim := { program := "ytlogbgkbdjdkkaa", sum := "57c6e65a92e94edcdc5b5ff646a187d0add97016e3e63d9f61e6f919e76fd24f", func := "loop.example/g01030/laws.FnExactLeavesOf", spec := "fnExactLeavesOf", apart := false }
def FnExactLeavesOfSaid : Prop := fnExactLeavesOfRow.holds Try.pinned (OpenSpec.ofChange fnExactLeavesOfSpec)

/-- ITS FALSE NEIGHBOUR: 'it returns false'. Refute it at one input. -/
def fnExactLeavesOfWrong : ChangeSpec := { name := "fnExactLeavesOf", fn := fun _ => fun
  | [d] => { results := [.lit (.bool false)], args := [d] }
  | _ => none }
def FnExactLeavesOfWrongFalsely : Prop := fnExactLeavesOfRow.holds Try.pinned (OpenSpec.ofChange fnExactLeavesOfWrong)

/-- 'laws.FnExactAddClass': WHATEVER THE INPUT: true; the input reads as it did. -/
def fnExactAddClassSpec : ChangeSpec := { name := "fnExactAddClass", fn := fun _ => fun
  | [d1, d2] => { results := [.lit (.bool true)], args := [d1, d2] }
  | _ => none }
def fnExactAddClassRow : OpenClaim := { program := "ytlogbgkbdjdkkaa", sum := "57c6e65a92e94edcdc5b5ff646a187d0add97016e3e63d9f61e6f919e76fd24f", func := "loop.example/g01030/laws.FnExactAddClass", spec := "fnExactAddClass", apart := false }
def FnExactAddClassSaid : Prop := fnExactAddClassRow.holds Try.pinned (OpenSpec.ofChange fnExactAddClassSpec)

/-- ITS FALSE NEIGHBOUR: 'it returns false'. Refute it at one input. -/
def fnExactAddClassWrong : ChangeSpec := { name := "fnExactAddClass", fn := fun _ => fun
  | [d1, d2] => { results := [.lit (.bool false)], args := [d1, d2] }
  | _ => none }
def FnExactAddClassWrongFalsely : Prop := fnExactAddClassRow.holds Try.pinned (OpenSpec.ofChange fnExactAddClassWrong)

/-- 'laws.FnExactMoveClass': WHATEVER THE INPUT: true; the input reads as it did. -/
def fnExactMoveClassSpec : ChangeSpec := { name := "fnExactMoveClass", fn := fun _ => fun
  | [d1, d2, d3] => { results := [.lit (.bool true)], args := [d1, d2, d3] }
  | _ => none }
def fnExactMoveClassRow : OpenClaim := { program := "ytlogbgkbdjdkkaa", sum := "57c6e65a92e94edcdc5b5ff646a187d0add97016e3e63d9f61e6f919e76fd24f", func := "loop.example/g01030/laws.FnExactMoveClass", spec := "fnExactMoveClass", apart := false }
def FnExactMoveClassSaid : Prop := fnExactMoveClassRow.holds Try.pinned (OpenSpec.ofChange fnExactMoveClassSpec)

/-- ITS FALSE NEIGHBOUR: 'it returns false'. Refute it at one input. -/
def fnExactMoveClassWrong : ChangeSpec := { name := "fnExactMoveClass", fn := fun _ => fun
  | [d1, d2, d3] => { results := [.lit (.bool false)], args := [d1, d2, d3] }
  | _ => none }
def FnExactMoveClassWrongFalsely : Prop := fnExactMoveClassRow.holds Try.pinned (OpenSpec.ofChange fnExactMoveClassWrong)

/- THE SECOND FORM. 'bulk': how many values and letters a reading holds, each counted each time it is reached (what is shared counts as often as it is met; a slice's spare places count too). A statement '..UptoSaid' is the law's where the arguments, and the package variables that the reading takes, are together of bulk at most 1048576: NARROWER than '..Said'. Prove '..Said' where nothing that the law and all that it calls make is longer than what came in: it says more and counts as full. Else prove '..UptoSaid'. A law counts once. -/
mutual
def uptoBulk {H : Type} : DataW H → Nat
  | .lit (.string bytes) => bytes.length + 1
  | .lit _ => 1
  | .nil => 1
  | .ptr d => uptoBulk d + 1
  | .slice elems spare => uptoBulkAll elems + uptoBulkAll spare + 1
  | .agg parts => uptoBulkAll parts + 1
  | .iface _ d => uptoBulk d + 1
  | .map entries => uptoBulkEntries entries + 1
  | .held _ => 1
def uptoBulkAll {H : Type} : List (DataW H) → Nat
  | [] => 0
  | d :: r => uptoBulk d + uptoBulkAll r
def uptoBulkEntries {H : Type} : List (Lit × DataW H) → Nat
  | [] => 0
  | x :: r => uptoBulkEntry x + uptoBulkEntries r
def uptoBulkEntry {H : Type} : Lit × DataW H → Nat
  | (.string bytes, d) => bytes.length + uptoBulk d + 1
  | (_, d) => uptoBulk d + 1
 end
def uptoSmall : (H : Type) → List (DataW H) → Bool := fun _ ds => decide (uptoBulkAll ds ≤ 1048576)
def OpenSpec.upto (s : _root_.Go.ChangeSpec) : _root_.Go.OpenSpec := { _root_.Go.OpenSpec.ofChange s with cond := some uptoSmall }

/-- 'laws.FnClasses', WHERE WHAT IT READS IS OF BULK AT MOST 1048576: true; the input reads as it did. -/
def fnClassesUptoRow : OpenClaim := { program := "ytlogbgkbdjdkkaa", sum := "57c6e65a92e94edcdc5b5ff646a187d0add97016e3e63d9f61e6f919e76fd24f", func := "loop.example/g01030/laws.FnClasses", spec := "fnClasses", unfollowed := true, recurses := true, apart := false, narrowed := true }
def FnClassesUptoSaid : Prop := fnClassesUptoRow.holds Try.pinned (OpenSpec.upto fnClassesSpec)

/-- 'laws.FnTrees', WHERE WHAT IT READS IS OF BULK AT MOST 1048576: true; the input reads as it did. -/
def fnTreesUptoRow : OpenClaim := { program := "ytlogbgkbdjdkkaa", sum := "57c6e65a92e94edcdc5b5ff646a187d0add97016e3e63d9f61e6f919e76fd24f", func := "loop.example/g01030/laws.FnTrees", spec := "fnTrees", apart := false, narrowed := true }
def FnTreesUptoSaid : Prop := fnTreesUptoRow.holds Try.pinned (OpenSpec.upto fnTreesSpec)

/-- 'laws.FnExactIsClassTree', WHERE WHAT IT READS IS OF BULK AT MOST 1048576: true; the input reads as it did. -/
def fnExactIsClassTreeUptoRow : OpenClaim := { program := "ytlogbgkbdjdkkaa", sum := "57c6e65a92e94edcdc5b5ff646a187d0add97016e3e63d9f61e6f919e76fd24f", func := "loop.example/g01030/laws.FnExactIsClassTree", spec := "fnExactIsClassTree", apart := false, narrowed := true }
def FnExactIsClassTreeUptoSaid : Prop := fnExactIsClassTreeUptoRow.holds Try.pinned (OpenSpec.upto fnExactIsClassTreeSpec)

/-- 'laws.FnExactIsKindOf', WHERE WHAT IT READS IS OF BULK AT MOST 1048576: true; the input reads as it did. -/
def fnExactIsKindOfUptoRow : OpenClaim := { program := "ytlogbgkbdjdkkaa", sum := "57c6e65a92e94edcdc5b5ff646a187d0add97016e3e63d9f61e6f919e76fd24f", func := "loop.example/g01030/laws.FnExactIsKindOf", spec := "fnExactIsKindOf", apart := false, narrowed := true }
def FnExactIsKindOfUptoSaid : Prop := fnExactIsKindOfUptoRow.holds Try.pinned (OpenSpec.upto fnExactIsKindOfSpec)

/-- 'laws.FnExactKindsOf', WHERE WHAT IT READS IS OF BULK AT MOST 1048576: true; the input reads as it did. -/
def fnExactKindsOfUptoRow : OpenClaim := { program := "ytlogbgkbdjdkkaa", sum := "57c6e65a92e94edcdc5b5ff646a187d0add97016e3e63d9f61e6f919e76fd24f", func := "loop.example/g01030/laws.FnExactKindsOf", spec := "fnExactKindsOf", apart := false, narrowed := true }
def FnExactKindsOfUptoSaid : Prop := fnExactKindsOfUptoRow.holds Try.pinned (OpenSpec.upto fnExactKindsOfSpec)

/-- 'laws.FnExactSubclassesOf', WHERE WHAT IT READS IS OF BULK AT MOST 1048576: true; the input reads as it did. -/
def fnExactSubclassesOfUptoRow : OpenClaim := { program := "ytlogbgkbdjdkkaa", sum := "57c6e65a92e94edcdc5b5ff646a187d0add97016e3e63d9f61e6f919e76fd24f", func := "loop.example/g01030/laws.FnExactSubclassesOf", spec := "fnExactSubclassesOf", unfollowed := true, recurses := true, apart := false, narrowed := true }
def FnExactSubclassesOfUptoSaid : Prop := fnExactSubclassesOfUptoRow.holds Try.pinned (OpenSpec.upto fnExactSubclassesOfSpec)

/-- 'laws.FnExactCommonKind', WHERE WHAT IT READS IS OF BULK AT MOST 1048576: true; the input reads as it did. -/
def fnExactCommonKindUptoRow : OpenClaim := { program := "ytlogbgkbdjdkkaa", sum := "57c6e65a92e94edcdc5b5ff646a187d0add97016e3e63d9f61e6f919e76fd24f", func := "loop.example/g01030/laws.FnExactCommonKind", spec := "fnExactCommonKind", apart := false, narrowed := true }
def FnExactCommonKindUptoSaid : Prop := fnExactCommonKindUptoRow.holds Try.pinned (OpenSpec.upto fnExactCommonKindSpec)

/-- 'laws.FnExactDistanceOf', WHERE WHAT IT READS IS OF BULK AT MOST 1048576: true; the input reads as it did. -/
def fnExactDistanceOfUptoRow : OpenClaim := { program := "ytlogbgkbdjdkkaa", sum := "57c6e65a92e94edcdc5b5ff646a187d0add97016e3e63d9f61e6f919e76fd24f", func := "loop.example/g01030/laws.FnExactDistanceOf", spec := "fnExactDistanceOf", apart := false, narrowed := true }
def FnExactDistanceOfUptoSaid : Prop := fnExactDistanceOfUptoRow.holds Try.pinned (OpenSpec.upto fnExactDistanceOfSpec)

/-- 'laws.FnExactLeavesOf', WHERE WHAT IT READS IS OF BULK AT MOST 1048576: true; the input reads as it did. -/
def fnExactLeavesOfUptoRow : OpenClaim := { program := "ytlogbgkbdjdkkaa", sum := "57c6e65a92e94edcdc5b5ff646a187d0add97016e3e63d9f61e6f919e76fd24f", func := "loop.example/g01030/laws.FnExactLeavesOf", spec := "fnExactLeavesOf", apart := false, narrowed := true }
def FnExactLeavesOfUptoSaid : Prop := fnExactLeavesOfUptoRow.holds Try.pinned (OpenSpec.upto fnExactLeavesOfSpec)

/-- 'laws.FnExactAddClass', WHERE WHAT IT READS IS OF BULK AT MOST 1048576: true; the input reads as it did. -/
def fnExactAddClassUptoRow : OpenClaim := { program := "ytlogbgkbdjdkkaa", sum := "57c6e65a92e94edcdc5b5ff646a187d0add97016e3e63d9f61e6f919e76fd24f", func := "loop.example/g01030/laws.FnExactAddClass", spec := "fnExactAddClass", apart := false, narrowed := true }
def FnExactAddClassUptoSaid : Prop := fnExactAddClassUptoRow.holds Try.pinned (OpenSpec.upto fnExactAddClassSpec)

/-- 'laws.FnExactMoveClass', WHERE WHAT IT READS IS OF BULK AT MOST 1048576: true; the input reads as it did. -/
def fnExactMoveClassUptoRow : OpenClaim := { program := "ytlogbgkbdjdkkaa", sum := "57c6e65a92e94edcdc5b5ff646a187d0add97016e3e63d9f61e6f919e76fd24f", func := "loop.example/g01030/laws.FnExactMoveClass", spec := "fnExactMoveClass", apart := false, narrowed := true }
def FnExactMoveClassUptoSaid : Prop := fnExactMoveClassUptoRow.holds Try.pinned (OpenSpec.upto fnExactMoveClassSpec)

end Rows
end Go.Proofs.Ytlogbgkbdjdkkaa
