/-
  No cell of these rows narrows 'for every input' (looked for: loops, veiled, ifaces, maps, wideKeys, modest, calm, conditions, laid).
  DERIVED. THE GIVEN ROWS OF THIS SEAT. 5 by the template 'for every input the law returns true; each argument reads behind the call as it read before'; 0 by the template 'total and deterministic' (their statements: YtfnmkdfdbkncjaaTotals.lean).
  GIVEN WITH THE SEED: the statements are not yours to turn. If you find one false, say at which input.
  Laid BY PROGRAM, IN A SANDBOX (cutbox-rows.mjs): the forced cells as the released guide's own fill.sh prints them over the translation cbe817669ac0bdb9… (all of the seat's roots in one cut). By AI agents, Wed Nov 11 2026. No macro, syntax, notation, axiom, sorry.
-/
import Derived.Test.YtfnmkdfdbkncjaaChecked
import GoSem.Claim
import GoSem.ClaimJoined
import GoSem.ClaimMapViews
import Derived.JoinedTies
import Derived.KernelRfl
namespace Go.Proofs.Ytfnmkdfdbkncjaa
/- THE CELL 'sum', in the pinned program and in every row, IS THE sha256 OF THE DUMP (.gsa) THAT YtfnmkdfdbkncjaaProg.lean LOADS. Nothing in Lean hashes anything: it is a label: what it is worth is what the hold of that sum in a sandbox is worth. -/
noncomputable def Try.pinned : Pinned := { name := "ytfnmkdfdbkncjaa", sum := "cbe817669ac0bdb9cfe3e5d9cd9a451b8dc050ee9964b20ca0a134b75fbca546", checked := Try.checked }
namespace Rows
def none {H : Type} : Left H := { results := [], args := [] }

/-- 'laws.FnExactCommonStart': WHATEVER THE INPUT: true; the input reads as it did. -/
def fnExactCommonStartSpec : ChangeSpec := { name := "fnExactCommonStart", fn := fun _ => fun
  | [d1, d2] => { results := [.lit (.bool true)], args := [d1, d2] }
  | _ => none }
def fnExactCommonStartRow : OpenClaim := { program := "ytfnmkdfdbkncjaa", sum := "cbe817669ac0bdb9cfe3e5d9cd9a451b8dc050ee9964b20ca0a134b75fbca546", func := "loop.example/g01030/laws.FnExactCommonStart", spec := "fnExactCommonStart", unfollowed := true, recurses := true, apart := false }
def FnExactCommonStartSaid : Prop := fnExactCommonStartRow.holds Try.pinned (OpenSpec.ofChange fnExactCommonStartSpec)

/-- ITS FALSE NEIGHBOUR: 'it returns false'. Refute it at one input. -/
def fnExactCommonStartWrong : ChangeSpec := { name := "fnExactCommonStart", fn := fun _ => fun
  | [d1, d2] => { results := [.lit (.bool false)], args := [d1, d2] }
  | _ => none }
def FnExactCommonStartWrongFalsely : Prop := fnExactCommonStartRow.holds Try.pinned (OpenSpec.ofChange fnExactCommonStartWrong)

/-- 'laws.FnExactEditDistance': WHATEVER THE INPUT: true; the input reads as it did. -/
def fnExactEditDistanceSpec : ChangeSpec := { name := "fnExactEditDistance", fn := fun _ => fun
  | [d1, d2] => { results := [.lit (.bool true)], args := [d1, d2] }
  | _ => none }
def fnExactEditDistanceRow : OpenClaim := { program := "ytfnmkdfdbkncjaa", sum := "cbe817669ac0bdb9cfe3e5d9cd9a451b8dc050ee9964b20ca0a134b75fbca546", func := "loop.example/g01030/laws.FnExactEditDistance", spec := "fnExactEditDistance", unfollowed := true, recurses := true, apart := false }
def FnExactEditDistanceSaid : Prop := fnExactEditDistanceRow.holds Try.pinned (OpenSpec.ofChange fnExactEditDistanceSpec)

/-- ITS FALSE NEIGHBOUR: 'it returns false'. Refute it at one input. -/
def fnExactEditDistanceWrong : ChangeSpec := { name := "fnExactEditDistance", fn := fun _ => fun
  | [d1, d2] => { results := [.lit (.bool false)], args := [d1, d2] }
  | _ => none }
def FnExactEditDistanceWrongFalsely : Prop := fnExactEditDistanceRow.holds Try.pinned (OpenSpec.ofChange fnExactEditDistanceWrong)

/-- 'laws.FnExactLettersInCommon': WHATEVER THE INPUT: true; the input reads as it did. -/
def fnExactLettersInCommonSpec : ChangeSpec := { name := "fnExactLettersInCommon", fn := fun _ => fun
  | [d1, d2] => { results := [.lit (.bool true)], args := [d1, d2] }
  | _ => none }
def fnExactLettersInCommonRow : OpenClaim := { program := "ytfnmkdfdbkncjaa", sum := "cbe817669ac0bdb9cfe3e5d9cd9a451b8dc050ee9964b20ca0a134b75fbca546", func := "loop.example/g01030/laws.FnExactLettersInCommon", spec := "fnExactLettersInCommon", unfollowed := true, recurses := true, apart := false }
def FnExactLettersInCommonSaid : Prop := fnExactLettersInCommonRow.holds Try.pinned (OpenSpec.ofChange fnExactLettersInCommonSpec)

/-- ITS FALSE NEIGHBOUR: 'it returns false'. Refute it at one input. -/
def fnExactLettersInCommonWrong : ChangeSpec := { name := "fnExactLettersInCommon", fn := fun _ => fun
  | [d1, d2] => { results := [.lit (.bool false)], args := [d1, d2] }
  | _ => none }
def FnExactLettersInCommonWrongFalsely : Prop := fnExactLettersInCommonRow.holds Try.pinned (OpenSpec.ofChange fnExactLettersInCommonWrong)

/-- 'laws.FnExactSpellWord': WHATEVER THE INPUT: true; the input reads as it did. -/
def fnExactSpellWordSpec : ChangeSpec := { name := "fnExactSpellWord", fn := fun _ => fun
  | [d1, d2] => { results := [.lit (.bool true)], args := [d1, d2] }
  | _ => none }
def fnExactSpellWordRow : OpenClaim := { program := "ytfnmkdfdbkncjaa", sum := "cbe817669ac0bdb9cfe3e5d9cd9a451b8dc050ee9964b20ca0a134b75fbca546", func := "loop.example/g01030/laws.FnExactSpellWord", spec := "fnExactSpellWord", unfollowed := true, recurses := true, apart := false }
def FnExactSpellWordSaid : Prop := fnExactSpellWordRow.holds Try.pinned (OpenSpec.ofChange fnExactSpellWordSpec)

/-- ITS FALSE NEIGHBOUR: 'it returns false'. Refute it at one input. -/
def fnExactSpellWordWrong : ChangeSpec := { name := "fnExactSpellWord", fn := fun _ => fun
  | [d1, d2] => { results := [.lit (.bool false)], args := [d1, d2] }
  | _ => none }
def FnExactSpellWordWrongFalsely : Prop := fnExactSpellWordRow.holds Try.pinned (OpenSpec.ofChange fnExactSpellWordWrong)

/-- 'laws.FnExactCanWrite': WHATEVER THE INPUT: true; the input reads as it did. -/
def fnExactCanWriteSpec : ChangeSpec := { name := "fnExactCanWrite", fn := fun _ => fun
  | [d1, d2] => { results := [.lit (.bool true)], args := [d1, d2] }
  | _ => none }
def fnExactCanWriteRow : OpenClaim := { program := "ytfnmkdfdbkncjaa", sum := "cbe817669ac0bdb9cfe3e5d9cd9a451b8dc050ee9964b20ca0a134b75fbca546", func := "loop.example/g01030/laws.FnExactCanWrite", spec := "fnExactCanWrite", unfollowed := true, recurses := true, apart := false }
def FnExactCanWriteSaid : Prop := fnExactCanWriteRow.holds Try.pinned (OpenSpec.ofChange fnExactCanWriteSpec)

/-- ITS FALSE NEIGHBOUR: 'it returns false'. Refute it at one input. -/
def fnExactCanWriteWrong : ChangeSpec := { name := "fnExactCanWrite", fn := fun _ => fun
  | [d1, d2] => { results := [.lit (.bool false)], args := [d1, d2] }
  | _ => none }
def FnExactCanWriteWrongFalsely : Prop := fnExactCanWriteRow.holds Try.pinned (OpenSpec.ofChange fnExactCanWriteWrong)

/- THE SECOND FORM. 'bulk': how many values and letters a reading holds, each counted each time it is reached (what is shared counts as often as it is met; a slice's spare places count too). A statement '..UptoSaid' is the law's where the arguments, and the package variables that the reading takes, are together of bulk at most 1048576: NARROWER than '..Said'. Prove '..Said' where nothing that the law and all that it calls make is longer than what came in: it says more and counts as full. Else prove '..UptoSaid'. A law counts once. -/
mutual
def uptoBulk {H : Type} : DataW H → Nat
  | .lit (.string bytes) => bytes.length + 1
  | .lit _ => 1
  | .nil => 1
  | .ptr d => uptoBulk d + 1
  | .slice elems spare => uptoBulkAll elems + uptoBulkAll spare + 1
  | .agg parts => uptoBulkAll parts + 1
  | .iface _ d => uptoBulk d + 1
  | .map entries => uptoBulkEntries entries + 1
  | .held _ => 1
def uptoBulkAll {H : Type} : List (DataW H) → Nat
  | [] => 0
  | d :: r => uptoBulk d + uptoBulkAll r
def uptoBulkEntries {H : Type} : List (Lit × DataW H) → Nat
  | [] => 0
  | x :: r => uptoBulkEntry x + uptoBulkEntries r
def uptoBulkEntry {H : Type} : Lit × DataW H → Nat
  | (.string bytes, d) => bytes.length + uptoBulk d + 1
  | (_, d) => uptoBulk d + 1
 end
def uptoSmall : (H : Type) → List (DataW H) → Bool := fun _ ds => decide (uptoBulkAll ds ≤ 1048576)
def OpenSpec.upto (s : _root_.Go.ChangeSpec) : _root_.Go.OpenSpec := { _root_.Go.OpenSpec.ofChange s with cond := some uptoSmall }

/-- 'laws.FnExactCommonStart', WHERE WHAT IT READS IS OF BULK AT MOST 1048576: true; the input reads as it did. -/
def fnExactCommonStartUptoRow : OpenClaim := { program := "ytfnmkdfdbkncjaa", sum := "cbe817669ac0bdb9cfe3e5d9cd9a451b8dc050ee9964b20ca0a134b75fbca546", func := "loop.example/g01030/laws.FnExactCommonStart", spec := "fnExactCommonStart", unfollowed := true, recurses := true, apart := false, narrowed := true }
def FnExactCommonStartUptoSaid : Prop := fnExactCommonStartUptoRow.holds Try.pinned (OpenSpec.upto fnExactCommonStartSpec)

/-- 'laws.FnExactEditDistance', WHERE WHAT IT READS IS OF BULK AT MOST 1048576: true; the input reads as it did. -/
def fnExactEditDistanceUptoRow : OpenClaim := { program := "ytfnmkdfdbkncjaa", sum := "cbe817669ac0bdb9cfe3e5d9cd9a451b8dc050ee9964b20ca0a134b75fbca546", func := "loop.example/g01030/laws.FnExactEditDistance", spec := "fnExactEditDistance", unfollowed := true, recurses := true, apart := false, narrowed := true }
def FnExactEditDistanceUptoSaid : Prop := fnExactEditDistanceUptoRow.holds Try.pinned (OpenSpec.upto fnExactEditDistanceSpec)

/-- 'laws.FnExactLettersInCommon', WHERE WHAT IT READS IS OF BULK AT MOST 1048576: true; the input reads as it did. -/
def fnExactLettersInCommonUptoRow : OpenClaim := { program := "ytfnmkdfdbkncjaa", sum := "cbe817669ac0bdb9cfe3e5d9cd9a451b8dc050ee9964b20ca0a134b75fbca546", func := "loop.example/g01030/laws.FnExactLettersInCommon", spec := "fnExactLettersInCommon", unfollowed := true, recurses := true, apart := false, narrowed := true }
def FnExactLettersInCommonUptoSaid : Prop := fnExactLettersInCommonUptoRow.holds Try.pinned (OpenSpec.upto fnExactLettersInCommonSpec)

/-- 'laws.FnExactSpellWord', WHERE WHAT IT READS IS OF BULK AT MOST 1048576: true; the input reads as it did. -/
def fnExactSpellWordUptoRow : OpenClaim := { program := "ytfnmkdfdbkncjaa", sum := "cbe817669ac0bdb9cfe3e5d9cd9a451b8dc050ee9964b20ca0a134b75fbca546", func := "loop.example/g01030/laws.FnExactSpellWord", spec := "fnExactSpellWord", unfollowed := true, recurses := true, apart := false, narrowed := true }
def FnExactSpellWordUptoSaid : Prop := fnExactSpellWordUptoRow.holds Try.pinned (OpenSpec.upto fnExactSpellWordSpec)

/-- 'laws.FnExactCanWrite', WHERE WHAT IT READS IS OF BULK AT MOST 1048576: true; the input reads as it did. -/
def fnExactCanWriteUptoRow : OpenClaim := { program := "ytfnmkdfdbkncjaa", sum := "cbe817669ac0bdb9cfe3e5d9cd9a451b8dc050ee9964b20ca0a134b75fbca546", func := "loop.example/g01030/laws.FnExactCanWrite", spec := "fnExactCanWrite", unfollowed := true, recurses := true, apart := false, narrowed := true }
def FnExactCanWriteUptoSaid : Prop := fnExactCanWriteUptoRow.holds Try.pinned (OpenSpec.upto fnExactCanWriteSpec)

end Rows
end Go.Proofs.Ytfnmkdfdbkncjaa
