/-
  No cell of these rows narrows 'for every input' (looked for: loops, veiled, ifaces, maps, wideKeys, modest, calm, conditions, laid).
  DERIVED. THE GIVEN ROWS OF THIS SEAT. 4 by the template 'for every input the law returns true; each argument reads behind the call as it read before'; 0 by the template 'total and deterministic' (their statements: YtkbeknapobdifaaTotals.lean).
  GIVEN WITH THE SEED: the statements are not yours to turn. If you find one false, say at which input.
  Laid BY PROGRAM, IN A SANDBOX (cutbox-rows.mjs): the forced cells as the released guide's own fill.sh prints them over the translation 4b563470df53767a… (all of the seat's roots in one cut). By AI agents, Wed Nov 11 2026. No macro, syntax, notation, axiom, sorry.
-/
import Derived.Test.YtkbeknapobdifaaChecked
import GoSem.Claim
import GoSem.ClaimJoined
import GoSem.ClaimMapViews
import Derived.JoinedTies
import Derived.KernelRfl
namespace Go.Proofs.Ytkbeknapobdifaa
/- THE CELL 'sum', in the pinned program and in every row, IS THE sha256 OF THE DUMP (.gsa) THAT YtkbeknapobdifaaProg.lean LOADS. Nothing in Lean hashes anything: it is a label: what it is worth is what the hold of that sum in a sandbox is worth. -/
noncomputable def Try.pinned : Pinned := { name := "ytkbeknapobdifaa", sum := "4b563470df53767a8fbbe49d782921159f43d26aa28d8b2290ae248806a46984", checked := Try.checked }
namespace Rows
def none {H : Type} : Left H := { results := [], args := [] }

/-- 'laws.FnExactIsWord': WHATEVER THE INPUT: true; the input reads as it did. -/
def fnExactIsWordSpec : ChangeSpec := { name := "fnExactIsWord", fn := fun _ => fun
  | [d] => { results := [.lit (.bool true)], args := [d] }
  | _ => none }
def fnExactIsWordRow : OpenClaim := { program := "ytkbeknapobdifaa", sum := "4b563470df53767a8fbbe49d782921159f43d26aa28d8b2290ae248806a46984", func := "loop.example/g01030/laws.FnExactIsWord", spec := "fnExactIsWord", apart := false }
def FnExactIsWordSaid : Prop := fnExactIsWordRow.holds Try.pinned (OpenSpec.ofChange fnExactIsWordSpec)

/-- ITS FALSE NEIGHBOUR: 'it returns false'. Refute it at one input. -/
def fnExactIsWordWrong : ChangeSpec := { name := "fnExactIsWord", fn := fun _ => fun
  | [d] => { results := [.lit (.bool false)], args := [d] }
  | _ => none }
def FnExactIsWordWrongFalsely : Prop := fnExactIsWordRow.holds Try.pinned (OpenSpec.ofChange fnExactIsWordWrong)

/-- 'laws.FnExactIsAlphabet': WHATEVER THE INPUT: true; the input reads as it did. -/
def fnExactIsAlphabetSpec : ChangeSpec := { name := "fnExactIsAlphabet", fn := fun _ => fun
  | [d] => { results := [.lit (.bool true)], args := [d] }
  | _ => none }
def fnExactIsAlphabetRow : OpenClaim := { program := "ytkbeknapobdifaa", sum := "4b563470df53767a8fbbe49d782921159f43d26aa28d8b2290ae248806a46984", func := "loop.example/g01030/laws.FnExactIsAlphabet", spec := "fnExactIsAlphabet", apart := false }
def FnExactIsAlphabetSaid : Prop := fnExactIsAlphabetRow.holds Try.pinned (OpenSpec.ofChange fnExactIsAlphabetSpec)

/-- ITS FALSE NEIGHBOUR: 'it returns false'. Refute it at one input. -/
def fnExactIsAlphabetWrong : ChangeSpec := { name := "fnExactIsAlphabet", fn := fun _ => fun
  | [d] => { results := [.lit (.bool false)], args := [d] }
  | _ => none }
def FnExactIsAlphabetWrongFalsely : Prop := fnExactIsAlphabetRow.holds Try.pinned (OpenSpec.ofChange fnExactIsAlphabetWrong)

/-- 'laws.FnExactSpellWord': WHATEVER THE INPUT: true; the input reads as it did. -/
def fnExactSpellWordSpec : ChangeSpec := { name := "fnExactSpellWord", fn := fun _ => fun
  | [d1, d2] => { results := [.lit (.bool true)], args := [d1, d2] }
  | _ => none }
def fnExactSpellWordRow : OpenClaim := { program := "ytkbeknapobdifaa", sum := "4b563470df53767a8fbbe49d782921159f43d26aa28d8b2290ae248806a46984", func := "loop.example/g01030/laws.FnExactSpellWord", spec := "fnExactSpellWord", unfollowed := true, recurses := true, apart := false }
def FnExactSpellWordSaid : Prop := fnExactSpellWordRow.holds Try.pinned (OpenSpec.ofChange fnExactSpellWordSpec)

/-- ITS FALSE NEIGHBOUR: 'it returns false'. Refute it at one input. -/
def fnExactSpellWordWrong : ChangeSpec := { name := "fnExactSpellWord", fn := fun _ => fun
  | [d1, d2] => { results := [.lit (.bool false)], args := [d1, d2] }
  | _ => none }
def FnExactSpellWordWrongFalsely : Prop := fnExactSpellWordRow.holds Try.pinned (OpenSpec.ofChange fnExactSpellWordWrong)

/-- 'laws.FnExactCanWrite': WHATEVER THE INPUT: true; the input reads as it did. -/
def fnExactCanWriteSpec : ChangeSpec := { name := "fnExactCanWrite", fn := fun _ => fun
  | [d1, d2] => { results := [.lit (.bool true)], args := [d1, d2] }
  | _ => none }
def fnExactCanWriteRow : OpenClaim := { program := "ytkbeknapobdifaa", sum := "4b563470df53767a8fbbe49d782921159f43d26aa28d8b2290ae248806a46984", func := "loop.example/g01030/laws.FnExactCanWrite", spec := "fnExactCanWrite", unfollowed := true, recurses := true, apart := false }
def FnExactCanWriteSaid : Prop := fnExactCanWriteRow.holds Try.pinned (OpenSpec.ofChange fnExactCanWriteSpec)

/-- ITS FALSE NEIGHBOUR: 'it returns false'. Refute it at one input. -/
def fnExactCanWriteWrong : ChangeSpec := { name := "fnExactCanWrite", fn := fun _ => fun
  | [d1, d2] => { results := [.lit (.bool false)], args := [d1, d2] }
  | _ => none }
def FnExactCanWriteWrongFalsely : Prop := fnExactCanWriteRow.holds Try.pinned (OpenSpec.ofChange fnExactCanWriteWrong)

/- THE SECOND FORM. 'bulk': how many values and letters a reading holds, each counted each time it is reached (what is shared counts as often as it is met; a slice's spare places count too). A statement '..UptoSaid' is the law's where the arguments, and the package variables that the reading takes, are together of bulk at most 1048576: NARROWER than '..Said'. Prove '..Said' where nothing that the law and all that it calls make is longer than what came in: it says more and counts as full. Else prove '..UptoSaid'. A law counts once. -/
mutual
def uptoBulk {H : Type} : DataW H → Nat
  | .lit (.string bytes) => bytes.length + 1
  | .lit _ => 1
  | .nil => 1
  | .ptr d => uptoBulk d + 1
  | .slice elems spare => uptoBulkAll elems + uptoBulkAll spare + 1
  | .agg parts => uptoBulkAll parts + 1
  | .iface _ d => uptoBulk d + 1
  | .map entries => uptoBulkEntries entries + 1
  | .held _ => 1
def uptoBulkAll {H : Type} : List (DataW H) → Nat
  | [] => 0
  | d :: r => uptoBulk d + uptoBulkAll r
def uptoBulkEntries {H : Type} : List (Lit × DataW H) → Nat
  | [] => 0
  | x :: r => uptoBulkEntry x + uptoBulkEntries r
def uptoBulkEntry {H : Type} : Lit × DataW H → Nat
  | (.string bytes, d) => bytes.length + uptoBulk d + 1
  | (_, d) => uptoBulk d + 1
 end
def uptoSmall : (H : Type) → List (DataW H) → Bool := fun _ ds => decide (uptoBulkAll ds ≤ 1048576)
def OpenSpec.upto (s : _root_.Go.ChangeSpec) : _root_.Go.OpenSpec := { _root_.Go.OpenSpec.ofChange s with cond := some uptoSmall }

/-- 'laws.FnExactIsWord', WHERE WHAT IT READS IS OF BULK AT MOST 1048576: true; the input reads as it did. -/
def fnExactIsWordUptoRow : OpenClaim := { program := "ytkbeknapobdifaa", sum := "4b563470df53767a8fbbe49d782921159f43d26aa28d8b2290ae248806a46984", func := "loop.example/g01030/laws.FnExactIsWord", spec := "fnExactIsWord", apart := false, narrowed := true }
def FnExactIsWordUptoSaid : Prop := fnExactIsWordUptoRow.holds Try.pinned (OpenSpec.upto fnExactIsWordSpec)

/-- 'laws.FnExactIsAlphabet', WHERE WHAT IT READS IS OF BULK AT MOST 1048576: true; the input reads as it did. -/
def fnExactIsAlphabetUptoRow : OpenClaim := { program := "ytkbeknapobdifaa", sum := "4b563470df53767a8fbbe49d782921159f43d26aa28d8b2290ae248806a46984", func := "loop.example/g01030/laws.FnExactIsAlphabet", spec := "fnExactIsAlphabet", apart := false, narrowed := true }
def FnExactIsAlphabetUptoSaid : Prop := fnExactIsAlphabetUptoRow.holds Try.pinned (OpenSpec.upto fnExactIsAlphabetSpec)

/-- 'laws.FnExactSpellWord', WHERE WHAT IT READS IS OF BULK AT MOST 1048576: true; the input reads as it did. -/
def fnExactSpellWordUptoRow : OpenClaim := { program := "ytkbeknapobdifaa", sum := "4b563470df53767a8fbbe49d782921159f43d26aa28d8b2290ae248806a46984", func := "loop.example/g01030/laws.FnExactSpellWord", spec := "fnExactSpellWord", unfollowed := true, recurses := true, apart := false, narrowed := true }
def FnExactSpellWordUptoSaid : Prop := fnExactSpellWordUptoRow.holds Try.pinned (OpenSpec.upto fnExactSpellWordSpec)

/-- 'laws.FnExactCanWrite', WHERE WHAT IT READS IS OF BULK AT MOST 1048576: true; the input reads as it did. -/
def fnExactCanWriteUptoRow : OpenClaim := { program := "ytkbeknapobdifaa", sum := "4b563470df53767a8fbbe49d782921159f43d26aa28d8b2290ae248806a46984", func := "loop.example/g01030/laws.FnExactCanWrite", spec := "fnExactCanWrite", unfollowed := true, recurses := true, apart := false, narrowed := true }
def FnExactCanWriteUptoSaid : Prop := fnExactCanWriteUptoRow.holds Try.pinned (OpenSpec.upto fnExactCanWriteSpec)

end Rows
end Go.Proofs.Ytkbeknapobdifaa
