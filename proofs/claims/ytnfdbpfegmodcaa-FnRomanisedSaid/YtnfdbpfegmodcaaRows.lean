/-
  No cell of these rows narrows 'for every input' (looked for: loops, veiled, ifaces, maps, wideKeys, modest, calm, conditions, laid).
  DERIVED. THE GIVEN ROWS OF THIS SEAT. 10 by the template 'for every input the law returns true; each argument reads behind the call as it read before'; 0 by the template 'total and deterministic' (their statements: YtnfdbpfegmodcaaTotals.lean).
  GIVEN WITH THE SEED: the statements are not yours to turn. If you find one false, say at which input.
  Laid BY PROGRAM, IN A SANDBOX (cutbox-rows.mjs): the forced cells as the released guide's own fill.sh prints them over the translation 01ae5764181c485e… (all of the seat's roots in one cut). By AI agents, Wed Nov 11 2026. No macro, syntax, notation, axiom, sorry.
-/
import Derived.Test.YtnfdbpfegmodcaaChecked
import GoSem.Claim
import GoSem.ClaimJoined
import GoSem.ClaimMapViews
import Derived.JoinedTies
import Derived.KernelRfl
namespace Go.Proofs.Ytnfdbpfegmodcaa
/- THE CELL 'sum', in the pinned program and in every row, IS THE sha256 OF THE DUMP (.gsa) THAT YtnfdbpfegmodcaaProg.lean LOADS. Nothing in Lean hashes anything: it is a label: what it is worth is what the hold of that sum in a sandbox is worth. -/
noncomputable def Try.pinned : Pinned := { name := "ytnfdbpfegmodcaa", sum := "01ae5764181c485e1c0e88c2057a67dd2b8f564dab77d16df11983e98162fb17", checked := Try.checked }
namespace Rows
def none {H : Type} : Left H := { results := [], args := [] }

/-- 'laws.FnRomanised': WHATEVER THE INPUT: true; the input reads as it did. -/
def fnRomanisedSpec : ChangeSpec := { name := "fnRomanised", fn := fun _ => fun
  | [d] => { results := [.lit (.bool true)], args := [d] }
  | _ => none }
def fnRomanisedRow : OpenClaim := { program := "ytnfdbpfegmodcaa", sum := "01ae5764181c485e1c0e88c2057a67dd2b8f564dab77d16df11983e98162fb17", func := "loop.example/g01030/laws.FnRomanised", spec := "fnRomanised", inPlace := ["internal/abi.NoEscape", "maps.clone"], recurses := true, plainKeys := false, apart := false }
def FnRomanisedSaid : Prop := fnRomanisedRow.holds Try.pinned (OpenSpec.ofChange fnRomanisedSpec)

/-- ITS FALSE NEIGHBOUR: 'it returns false'. Refute it at one input. -/
def fnRomanisedWrong : ChangeSpec := { name := "fnRomanised", fn := fun _ => fun
  | [d] => { results := [.lit (.bool false)], args := [d] }
  | _ => none }
def FnRomanisedWrongFalsely : Prop := fnRomanisedRow.holds Try.pinned (OpenSpec.ofChange fnRomanisedWrong)

/-- 'laws.FnParsings': WHATEVER THE INPUT: true; the input reads as it did. -/
def fnParsingsSpec : ChangeSpec := { name := "fnParsings", fn := fun _ => fun
  | [d] => { results := [.lit (.bool true)], args := [d] }
  | _ => none }
def fnParsingsRow : OpenClaim := { program := "ytnfdbpfegmodcaa", sum := "01ae5764181c485e1c0e88c2057a67dd2b8f564dab77d16df11983e98162fb17", func := "loop.example/g01030/laws.FnParsings", spec := "fnParsings", unfollowed := true, recurses := true, plainKeys := false, leaving := true, apart := false }
def FnParsingsSaid : Prop := fnParsingsRow.holds Try.pinned (OpenSpec.ofChange fnParsingsSpec)

/-- ITS FALSE NEIGHBOUR: 'it returns false'. Refute it at one input. -/
def fnParsingsWrong : ChangeSpec := { name := "fnParsings", fn := fun _ => fun
  | [d] => { results := [.lit (.bool false)], args := [d] }
  | _ => none }
def FnParsingsWrongFalsely : Prop := fnParsingsRow.holds Try.pinned (OpenSpec.ofChange fnParsingsWrong)

/-- 'laws.FnExactCountParsings': WHATEVER THE INPUT: true; the input reads as it did. -/
def fnExactCountParsingsSpec : ChangeSpec := { name := "fnExactCountParsings", fn := fun _ => fun
  | [d1, d2] => { results := [.lit (.bool true)], args := [d1, d2] }
  | _ => none }
def fnExactCountParsingsRow : OpenClaim := { program := "ytnfdbpfegmodcaa", sum := "01ae5764181c485e1c0e88c2057a67dd2b8f564dab77d16df11983e98162fb17", func := "loop.example/g01030/laws.FnExactCountParsings", spec := "fnExactCountParsings", plainKeys := false, apart := false }
def FnExactCountParsingsSaid : Prop := fnExactCountParsingsRow.holds Try.pinned (OpenSpec.ofChange fnExactCountParsingsSpec)

/-- ITS FALSE NEIGHBOUR: 'it returns false'. Refute it at one input. -/
def fnExactCountParsingsWrong : ChangeSpec := { name := "fnExactCountParsings", fn := fun _ => fun
  | [d1, d2] => { results := [.lit (.bool false)], args := [d1, d2] }
  | _ => none }
def FnExactCountParsingsWrongFalsely : Prop := fnExactCountParsingsRow.holds Try.pinned (OpenSpec.ofChange fnExactCountParsingsWrong)

/-- 'laws.FnExactFirstParsing': WHATEVER THE INPUT: true; the input reads as it did. -/
def fnExactFirstParsingSpec : ChangeSpec := { name := "fnExactFirstParsing", fn := fun _ => fun
  | [d1, d2] => { results := [.lit (.bool true)], args := [d1, d2] }
  | _ => none }
def fnExactFirstParsingRow : OpenClaim := { program := "ytnfdbpfegmodcaa", sum := "01ae5764181c485e1c0e88c2057a67dd2b8f564dab77d16df11983e98162fb17", func := "loop.example/g01030/laws.FnExactFirstParsing", spec := "fnExactFirstParsing", unfollowed := true, recurses := true, plainKeys := false, leaving := true, apart := false }
def FnExactFirstParsingSaid : Prop := fnExactFirstParsingRow.holds Try.pinned (OpenSpec.ofChange fnExactFirstParsingSpec)

/-- ITS FALSE NEIGHBOUR: 'it returns false'. Refute it at one input. -/
def fnExactFirstParsingWrong : ChangeSpec := { name := "fnExactFirstParsing", fn := fun _ => fun
  | [d1, d2] => { results := [.lit (.bool false)], args := [d1, d2] }
  | _ => none }
def FnExactFirstParsingWrongFalsely : Prop := fnExactFirstParsingRow.holds Try.pinned (OpenSpec.ofChange fnExactFirstParsingWrong)

/-- 'laws.FnExactIsUnambiguous': WHATEVER THE INPUT: true; the input reads as it did. -/
def fnExactIsUnambiguousSpec : ChangeSpec := { name := "fnExactIsUnambiguous", fn := fun _ => fun
  | [d] => { results := [.lit (.bool true)], args := [d] }
  | _ => none }
def fnExactIsUnambiguousRow : OpenClaim := { program := "ytnfdbpfegmodcaa", sum := "01ae5764181c485e1c0e88c2057a67dd2b8f564dab77d16df11983e98162fb17", func := "loop.example/g01030/laws.FnExactIsUnambiguous", spec := "fnExactIsUnambiguous", unfollowed := true, recurses := true, plainKeys := false, leaving := true, apart := false }
def FnExactIsUnambiguousSaid : Prop := fnExactIsUnambiguousRow.holds Try.pinned (OpenSpec.ofChange fnExactIsUnambiguousSpec)

/-- ITS FALSE NEIGHBOUR: 'it returns false'. Refute it at one input. -/
def fnExactIsUnambiguousWrong : ChangeSpec := { name := "fnExactIsUnambiguous", fn := fun _ => fun
  | [d] => { results := [.lit (.bool false)], args := [d] }
  | _ => none }
def FnExactIsUnambiguousWrongFalsely : Prop := fnExactIsUnambiguousRow.holds Try.pinned (OpenSpec.ofChange fnExactIsUnambiguousWrong)

/-- 'laws.FnExactAmbiguousText': WHATEVER THE INPUT: true; the input reads as it did. -/
def fnExactAmbiguousTextSpec : ChangeSpec := { name := "fnExactAmbiguousText", fn := fun _ => fun
  | [d] => { results := [.lit (.bool true)], args := [d] }
  | _ => none }
def fnExactAmbiguousTextRow : OpenClaim := { program := "ytnfdbpfegmodcaa", sum := "01ae5764181c485e1c0e88c2057a67dd2b8f564dab77d16df11983e98162fb17", func := "loop.example/g01030/laws.FnExactAmbiguousText", spec := "fnExactAmbiguousText", unfollowed := true, recurses := true, plainKeys := false, leaving := true, apart := false }
def FnExactAmbiguousTextSaid : Prop := fnExactAmbiguousTextRow.holds Try.pinned (OpenSpec.ofChange fnExactAmbiguousTextSpec)

/-- ITS FALSE NEIGHBOUR: 'it returns false'. Refute it at one input. -/
def fnExactAmbiguousTextWrong : ChangeSpec := { name := "fnExactAmbiguousText", fn := fun _ => fun
  | [d] => { results := [.lit (.bool false)], args := [d] }
  | _ => none }
def FnExactAmbiguousTextWrongFalsely : Prop := fnExactAmbiguousTextRow.holds Try.pinned (OpenSpec.ofChange fnExactAmbiguousTextWrong)

/-- 'laws.FnExactSignsOfParsing': WHATEVER THE INPUT: true; the input reads as it did. -/
def fnExactSignsOfParsingSpec : ChangeSpec := { name := "fnExactSignsOfParsing", fn := fun _ => fun
  | [d1, d2] => { results := [.lit (.bool true)], args := [d1, d2] }
  | _ => none }
def fnExactSignsOfParsingRow : OpenClaim := { program := "ytnfdbpfegmodcaa", sum := "01ae5764181c485e1c0e88c2057a67dd2b8f564dab77d16df11983e98162fb17", func := "loop.example/g01030/laws.FnExactSignsOfParsing", spec := "fnExactSignsOfParsing", plainKeys := false, apart := false }
def FnExactSignsOfParsingSaid : Prop := fnExactSignsOfParsingRow.holds Try.pinned (OpenSpec.ofChange fnExactSignsOfParsingSpec)

/-- ITS FALSE NEIGHBOUR: 'it returns false'. Refute it at one input. -/
def fnExactSignsOfParsingWrong : ChangeSpec := { name := "fnExactSignsOfParsing", fn := fun _ => fun
  | [d1, d2] => { results := [.lit (.bool false)], args := [d1, d2] }
  | _ => none }
def FnExactSignsOfParsingWrongFalsely : Prop := fnExactSignsOfParsingRow.holds Try.pinned (OpenSpec.ofChange fnExactSignsOfParsingWrong)

/-- 'laws.FnExactIsStable': WHATEVER THE INPUT: true; the input reads as it did. -/
def fnExactIsStableSpec : ChangeSpec := { name := "fnExactIsStable", fn := fun _ => fun
  | [d1, d2] => { results := [.lit (.bool true)], args := [d1, d2] }
  | _ => none }
def fnExactIsStableRow : OpenClaim := { program := "ytnfdbpfegmodcaa", sum := "01ae5764181c485e1c0e88c2057a67dd2b8f564dab77d16df11983e98162fb17", func := "loop.example/g01030/laws.FnExactIsStable", spec := "fnExactIsStable", unfollowed := true, recurses := true, plainKeys := false, leaving := true, apart := false }
def FnExactIsStableSaid : Prop := fnExactIsStableRow.holds Try.pinned (OpenSpec.ofChange fnExactIsStableSpec)

/-- ITS FALSE NEIGHBOUR: 'it returns false'. Refute it at one input. -/
def fnExactIsStableWrong : ChangeSpec := { name := "fnExactIsStable", fn := fun _ => fun
  | [d1, d2] => { results := [.lit (.bool false)], args := [d1, d2] }
  | _ => none }
def FnExactIsStableWrongFalsely : Prop := fnExactIsStableRow.holds Try.pinned (OpenSpec.ofChange fnExactIsStableWrong)

/-- 'laws.FnExactDecodeText': WHATEVER THE INPUT: true; the input reads as it did. -/
def fnExactDecodeTextSpec : ChangeSpec := { name := "fnExactDecodeText", fn := fun _ => fun
  | [d1, d2] => { results := [.lit (.bool true)], args := [d1, d2] }
  | _ => none }
def fnExactDecodeTextRow : OpenClaim := { program := "ytnfdbpfegmodcaa", sum := "01ae5764181c485e1c0e88c2057a67dd2b8f564dab77d16df11983e98162fb17", func := "loop.example/g01030/laws.FnExactDecodeText", spec := "fnExactDecodeText", unfollowed := true, recurses := true, plainKeys := false, leaving := true, apart := false }
def FnExactDecodeTextSaid : Prop := fnExactDecodeTextRow.holds Try.pinned (OpenSpec.ofChange fnExactDecodeTextSpec)

/-- ITS FALSE NEIGHBOUR: 'it returns false'. Refute it at one input. -/
def fnExactDecodeTextWrong : ChangeSpec := { name := "fnExactDecodeText", fn := fun _ => fun
  | [d1, d2] => { results := [.lit (.bool false)], args := [d1, d2] }
  | _ => none }
def FnExactDecodeTextWrongFalsely : Prop := fnExactDecodeTextRow.holds Try.pinned (OpenSpec.ofChange fnExactDecodeTextWrong)

/-- 'laws.FnExactIsRecovered': WHATEVER THE INPUT: true; the input reads as it did. -/
def fnExactIsRecoveredSpec : ChangeSpec := { name := "fnExactIsRecovered", fn := fun _ => fun
  | [d1, d2] => { results := [.lit (.bool true)], args := [d1, d2] }
  | _ => none }
def fnExactIsRecoveredRow : OpenClaim := { program := "ytnfdbpfegmodcaa", sum := "01ae5764181c485e1c0e88c2057a67dd2b8f564dab77d16df11983e98162fb17", func := "loop.example/g01030/laws.FnExactIsRecovered", spec := "fnExactIsRecovered", inPlace := ["internal/abi.NoEscape"], unfollowed := true, recurses := true, plainKeys := false, leaving := true, apart := false }
def FnExactIsRecoveredSaid : Prop := fnExactIsRecoveredRow.holds Try.pinned (OpenSpec.ofChange fnExactIsRecoveredSpec)

/-- ITS FALSE NEIGHBOUR: 'it returns false'. Refute it at one input. -/
def fnExactIsRecoveredWrong : ChangeSpec := { name := "fnExactIsRecovered", fn := fun _ => fun
  | [d1, d2] => { results := [.lit (.bool false)], args := [d1, d2] }
  | _ => none }
def FnExactIsRecoveredWrongFalsely : Prop := fnExactIsRecoveredRow.holds Try.pinned (OpenSpec.ofChange fnExactIsRecoveredWrong)

/- THE SECOND FORM. 'bulk': how many values and letters a reading holds, each counted each time it is reached (what is shared counts as often as it is met; a slice's spare places count too). A statement '..UptoSaid' is the law's where the arguments, and the package variables that the reading takes, are together of bulk at most 1048576: NARROWER than '..Said'. Prove '..Said' where nothing that the law and all that it calls make is longer than what came in: it says more and counts as full. Else prove '..UptoSaid'. A law counts once. -/
mutual
def uptoBulk {H : Type} : DataW H → Nat
  | .lit (.string bytes) => bytes.length + 1
  | .lit _ => 1
  | .nil => 1
  | .ptr d => uptoBulk d + 1
  | .slice elems spare => uptoBulkAll elems + uptoBulkAll spare + 1
  | .agg parts => uptoBulkAll parts + 1
  | .iface _ d => uptoBulk d + 1
  | .map entries => uptoBulkEntries entries + 1
  | .held _ => 1
def uptoBulkAll {H : Type} : List (DataW H) → Nat
  | [] => 0
  | d :: r => uptoBulk d + uptoBulkAll r
def uptoBulkEntries {H : Type} : List (Lit × DataW H) → Nat
  | [] => 0
  | x :: r => uptoBulkEntry x + uptoBulkEntries r
def uptoBulkEntry {H : Type} : Lit × DataW H → Nat
  | (.string bytes, d) => bytes.length + uptoBulk d + 1
  | (_, d) => uptoBulk d + 1
 end
def uptoSmall : (H : Type) → List (DataW H) → Bool := fun _ ds => decide (uptoBulkAll ds ≤ 1048576)
def OpenSpec.upto (s : _root_.Go.ChangeSpec) : _root_.Go.OpenSpec := { _root_.Go.OpenSpec.ofChange s with cond := some uptoSmall }

/-- 'laws.FnRomanised', WHERE WHAT IT READS IS OF BULK AT MOST 1048576: true; the input reads as it did. -/
def fnRomanisedUptoRow : OpenClaim := { program := "ytnfdbpfegmodcaa", sum := "01ae5764181c485e1c0e88c2057a67dd2b8f564dab77d16df11983e98162fb17", func := "loop.example/g01030/laws.FnRomanised", spec := "fnRomanised", inPlace := ["internal/abi.NoEscape", "maps.clone"], recurses := true, plainKeys := false, apart := false, narrowed := true }
def FnRomanisedUptoSaid : Prop := fnRomanisedUptoRow.holds Try.pinned (OpenSpec.upto fnRomanisedSpec)

/-- 'laws.FnParsings', WHERE WHAT IT READS IS OF BULK AT MOST 1048576: true; the input reads as it did. -/
def fnParsingsUptoRow : OpenClaim := { program := "ytnfdbpfegmodcaa", sum := "01ae5764181c485e1c0e88c2057a67dd2b8f564dab77d16df11983e98162fb17", func := "loop.example/g01030/laws.FnParsings", spec := "fnParsings", unfollowed := true, recurses := true, plainKeys := false, leaving := true, apart := false, narrowed := true }
def FnParsingsUptoSaid : Prop := fnParsingsUptoRow.holds Try.pinned (OpenSpec.upto fnParsingsSpec)

/-- 'laws.FnExactCountParsings', WHERE WHAT IT READS IS OF BULK AT MOST 1048576: true; the input reads as it did. -/
def fnExactCountParsingsUptoRow : OpenClaim := { program := "ytnfdbpfegmodcaa", sum := "01ae5764181c485e1c0e88c2057a67dd2b8f564dab77d16df11983e98162fb17", func := "loop.example/g01030/laws.FnExactCountParsings", spec := "fnExactCountParsings", plainKeys := false, apart := false, narrowed := true }
def FnExactCountParsingsUptoSaid : Prop := fnExactCountParsingsUptoRow.holds Try.pinned (OpenSpec.upto fnExactCountParsingsSpec)

/-- 'laws.FnExactFirstParsing', WHERE WHAT IT READS IS OF BULK AT MOST 1048576: true; the input reads as it did. -/
def fnExactFirstParsingUptoRow : OpenClaim := { program := "ytnfdbpfegmodcaa", sum := "01ae5764181c485e1c0e88c2057a67dd2b8f564dab77d16df11983e98162fb17", func := "loop.example/g01030/laws.FnExactFirstParsing", spec := "fnExactFirstParsing", unfollowed := true, recurses := true, plainKeys := false, leaving := true, apart := false, narrowed := true }
def FnExactFirstParsingUptoSaid : Prop := fnExactFirstParsingUptoRow.holds Try.pinned (OpenSpec.upto fnExactFirstParsingSpec)

/-- 'laws.FnExactIsUnambiguous', WHERE WHAT IT READS IS OF BULK AT MOST 1048576: true; the input reads as it did. -/
def fnExactIsUnambiguousUptoRow : OpenClaim := { program := "ytnfdbpfegmodcaa", sum := "01ae5764181c485e1c0e88c2057a67dd2b8f564dab77d16df11983e98162fb17", func := "loop.example/g01030/laws.FnExactIsUnambiguous", spec := "fnExactIsUnambiguous", unfollowed := true, recurses := true, plainKeys := false, leaving := true, apart := false, narrowed := true }
def FnExactIsUnambiguousUptoSaid : Prop := fnExactIsUnambiguousUptoRow.holds Try.pinned (OpenSpec.upto fnExactIsUnambiguousSpec)

/-- 'laws.FnExactAmbiguousText', WHERE WHAT IT READS IS OF BULK AT MOST 1048576: true; the input reads as it did. -/
def fnExactAmbiguousTextUptoRow : OpenClaim := { program := "ytnfdbpfegmodcaa", sum := "01ae5764181c485e1c0e88c2057a67dd2b8f564dab77d16df11983e98162fb17", func := "loop.example/g01030/laws.FnExactAmbiguousText", spec := "fnExactAmbiguousText", unfollowed := true, recurses := true, plainKeys := false, leaving := true, apart := false, narrowed := true }
def FnExactAmbiguousTextUptoSaid : Prop := fnExactAmbiguousTextUptoRow.holds Try.pinned (OpenSpec.upto fnExactAmbiguousTextSpec)

/-- 'laws.FnExactSignsOfParsing', WHERE WHAT IT READS IS OF BULK AT MOST 1048576: true; the input reads as it did. -/
def fnExactSignsOfParsingUptoRow : OpenClaim := { program := "ytnfdbpfegmodcaa", sum := "01ae5764181c485e1c0e88c2057a67dd2b8f564dab77d16df11983e98162fb17", func := "loop.example/g01030/laws.FnExactSignsOfParsing", spec := "fnExactSignsOfParsing", plainKeys := false, apart := false, narrowed := true }
def FnExactSignsOfParsingUptoSaid : Prop := fnExactSignsOfParsingUptoRow.holds Try.pinned (OpenSpec.upto fnExactSignsOfParsingSpec)

/-- 'laws.FnExactIsStable', WHERE WHAT IT READS IS OF BULK AT MOST 1048576: true; the input reads as it did. -/
def fnExactIsStableUptoRow : OpenClaim := { program := "ytnfdbpfegmodcaa", sum := "01ae5764181c485e1c0e88c2057a67dd2b8f564dab77d16df11983e98162fb17", func := "loop.example/g01030/laws.FnExactIsStable", spec := "fnExactIsStable", unfollowed := true, recurses := true, plainKeys := false, leaving := true, apart := false, narrowed := true }
def FnExactIsStableUptoSaid : Prop := fnExactIsStableUptoRow.holds Try.pinned (OpenSpec.upto fnExactIsStableSpec)

/-- 'laws.FnExactDecodeText', WHERE WHAT IT READS IS OF BULK AT MOST 1048576: true; the input reads as it did. -/
def fnExactDecodeTextUptoRow : OpenClaim := { program := "ytnfdbpfegmodcaa", sum := "01ae5764181c485e1c0e88c2057a67dd2b8f564dab77d16df11983e98162fb17", func := "loop.example/g01030/laws.FnExactDecodeText", spec := "fnExactDecodeText", unfollowed := true, recurses := true, plainKeys := false, leaving := true, apart := false, narrowed := true }
def FnExactDecodeTextUptoSaid : Prop := fnExactDecodeTextUptoRow.holds Try.pinned (OpenSpec.upto fnExactDecodeTextSpec)

/-- 'laws.FnExactIsRecovered', WHERE WHAT IT READS IS OF BULK AT MOST 1048576: true; the input reads as it did. -/
def fnExactIsRecoveredUptoRow : OpenClaim := { program := "ytnfdbpfegmodcaa", sum := "01ae5764181c485e1c0e88c2057a67dd2b8f564dab77d16df11983e98162fb17", func := "loop.example/g01030/laws.FnExactIsRecovered", spec := "fnExactIsRecovered", inPlace := ["internal/abi.NoEscape"], unfollowed := true, recurses := true, plainKeys := false, leaving := true, apart := false, narrowed := true }
def FnExactIsRecoveredUptoSaid : Prop := fnExactIsRecoveredUptoRow.holds Try.pinned (OpenSpec.upto fnExactIsRecoveredSpec)

end Rows
end Go.Proofs.Ytnfdbpfegmodcaa
