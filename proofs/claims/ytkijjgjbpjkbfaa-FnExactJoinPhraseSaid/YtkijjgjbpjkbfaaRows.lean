/-
  No cell of these rows narrows 'for every input' (looked for: loops, veiled, ifaces, maps, wideKeys, modest, calm, conditions, laid).
  DERIVED. THE GIVEN ROWS OF THIS SEAT. 4 by the template 'for every input the law returns true; each argument reads behind the call as it read before'; 0 by the template 'total and deterministic' (their statements: YtkijjgjbpjkbfaaTotals.lean).
  GIVEN WITH THE SEED: the statements are not yours to turn. If you find one false, say at which input.
  Laid BY PROGRAM, IN A SANDBOX (cutbox-rows.mjs): the forced cells as the released guide's own fill.sh prints them over the translation 45b7f67003ada3b5… (all of the seat's roots in one cut). By AI agents, Wed Nov 11 2026. No macro, syntax, notation, axiom, sorry.
-/
import Derived.Test.YtkijjgjbpjkbfaaChecked
import GoSem.Claim
import GoSem.ClaimJoined
import GoSem.ClaimMapViews
import Derived.JoinedTies
import Derived.KernelRfl
namespace Go.Proofs.Ytkijjgjbpjkbfaa
/- THE CELL 'sum', in the pinned program and in every row, IS THE sha256 OF THE DUMP (.gsa) THAT YtkijjgjbpjkbfaaProg.lean LOADS. Nothing in Lean hashes anything: it is a label: what it is worth is what the hold of that sum in a sandbox is worth. -/
noncomputable def Try.pinned : Pinned := { name := "ytkijjgjbpjkbfaa", sum := "45b7f67003ada3b592d0c0a69c51f2dfe89c3220510cb2d0fa3b7bdd68f73d91", checked := Try.checked }
namespace Rows
def none {H : Type} : Left H := { results := [], args := [] }

/-- 'laws.FnExactJoinPhrase': WHATEVER THE INPUT: true; the input reads as it did. -/
def fnExactJoinPhraseSpec : ChangeSpec := { name := "fnExactJoinPhrase", fn := fun _ => fun
  | [d] => { results := [.lit (.bool true)], args := [d] }
  | _ => none }
def fnExactJoinPhraseRow : OpenClaim := { program := "ytkijjgjbpjkbfaa", sum := "45b7f67003ada3b592d0c0a69c51f2dfe89c3220510cb2d0fa3b7bdd68f73d91", func := "loop.example/g01030/laws.FnExactJoinPhrase", spec := "fnExactJoinPhrase", inPlace := ["internal/abi.NoEscape", "internal/bytealg.MakeNoZero"], unfollowed := true, recurses := true, apart := false }
def FnExactJoinPhraseSaid : Prop := fnExactJoinPhraseRow.holds Try.pinned (OpenSpec.ofChange fnExactJoinPhraseSpec)

/-- ITS FALSE NEIGHBOUR: 'it returns false'. Refute it at one input. -/
def fnExactJoinPhraseWrong : ChangeSpec := { name := "fnExactJoinPhrase", fn := fun _ => fun
  | [d] => { results := [.lit (.bool false)], args := [d] }
  | _ => none }
def FnExactJoinPhraseWrongFalsely : Prop := fnExactJoinPhraseRow.holds Try.pinned (OpenSpec.ofChange fnExactJoinPhraseWrong)

/-- 'laws.FnExactJoinLetters': WHATEVER THE INPUT: true; the input reads as it did. -/
def fnExactJoinLettersSpec : ChangeSpec := { name := "fnExactJoinLetters", fn := fun _ => fun
  | [d1, d2] => { results := [.lit (.bool true)], args := [d1, d2] }
  | _ => none }
def fnExactJoinLettersRow : OpenClaim := { program := "ytkijjgjbpjkbfaa", sum := "45b7f67003ada3b592d0c0a69c51f2dfe89c3220510cb2d0fa3b7bdd68f73d91", func := "loop.example/g01030/laws.FnExactJoinLetters", spec := "fnExactJoinLetters", inPlace := ["internal/abi.NoEscape"], apart := false }
def FnExactJoinLettersSaid : Prop := fnExactJoinLettersRow.holds Try.pinned (OpenSpec.ofChange fnExactJoinLettersSpec)

/-- ITS FALSE NEIGHBOUR: 'it returns false'. Refute it at one input. -/
def fnExactJoinLettersWrong : ChangeSpec := { name := "fnExactJoinLetters", fn := fun _ => fun
  | [d1, d2] => { results := [.lit (.bool false)], args := [d1, d2] }
  | _ => none }
def FnExactJoinLettersWrongFalsely : Prop := fnExactJoinLettersRow.holds Try.pinned (OpenSpec.ofChange fnExactJoinLettersWrong)

/-- 'laws.FnExactIsSpelling': WHATEVER THE INPUT: true; the input reads as it did. -/
def fnExactIsSpellingSpec : ChangeSpec := { name := "fnExactIsSpelling", fn := fun _ => fun
  | [d1, d2] => { results := [.lit (.bool true)], args := [d1, d2] }
  | _ => none }
def fnExactIsSpellingRow : OpenClaim := { program := "ytkijjgjbpjkbfaa", sum := "45b7f67003ada3b592d0c0a69c51f2dfe89c3220510cb2d0fa3b7bdd68f73d91", func := "loop.example/g01030/laws.FnExactIsSpelling", spec := "fnExactIsSpelling", inPlace := ["internal/abi.NoEscape"], unfollowed := true, recurses := true, apart := false }
def FnExactIsSpellingSaid : Prop := fnExactIsSpellingRow.holds Try.pinned (OpenSpec.ofChange fnExactIsSpellingSpec)

/-- ITS FALSE NEIGHBOUR: 'it returns false'. Refute it at one input. -/
def fnExactIsSpellingWrong : ChangeSpec := { name := "fnExactIsSpelling", fn := fun _ => fun
  | [d1, d2] => { results := [.lit (.bool false)], args := [d1, d2] }
  | _ => none }
def FnExactIsSpellingWrongFalsely : Prop := fnExactIsSpellingRow.holds Try.pinned (OpenSpec.ofChange fnExactIsSpellingWrong)

/-- 'laws.FnExactCountSpellings': WHATEVER THE INPUT: true; the input reads as it did. -/
def fnExactCountSpellingsSpec : ChangeSpec := { name := "fnExactCountSpellings", fn := fun _ => fun
  | [d1, d2] => { results := [.lit (.bool true)], args := [d1, d2] }
  | _ => none }
def fnExactCountSpellingsRow : OpenClaim := { program := "ytkijjgjbpjkbfaa", sum := "45b7f67003ada3b592d0c0a69c51f2dfe89c3220510cb2d0fa3b7bdd68f73d91", func := "loop.example/g01030/laws.FnExactCountSpellings", spec := "fnExactCountSpellings", apart := false }
def FnExactCountSpellingsSaid : Prop := fnExactCountSpellingsRow.holds Try.pinned (OpenSpec.ofChange fnExactCountSpellingsSpec)

/-- ITS FALSE NEIGHBOUR: 'it returns false'. Refute it at one input. -/
def fnExactCountSpellingsWrong : ChangeSpec := { name := "fnExactCountSpellings", fn := fun _ => fun
  | [d1, d2] => { results := [.lit (.bool false)], args := [d1, d2] }
  | _ => none }
def FnExactCountSpellingsWrongFalsely : Prop := fnExactCountSpellingsRow.holds Try.pinned (OpenSpec.ofChange fnExactCountSpellingsWrong)

/- THE SECOND FORM. 'bulk': how many values and letters a reading holds, each counted each time it is reached (what is shared counts as often as it is met; a slice's spare places count too). A statement '..UptoSaid' is the law's where the arguments, and the package variables that the reading takes, are together of bulk at most 1048576: NARROWER than '..Said'. Prove '..Said' where nothing that the law and all that it calls make is longer than what came in: it says more and counts as full. Else prove '..UptoSaid'. A law counts once. -/
mutual
def uptoBulk {H : Type} : DataW H → Nat
  | .lit (.string bytes) => bytes.length + 1
  | .lit _ => 1
  | .nil => 1
  | .ptr d => uptoBulk d + 1
  | .slice elems spare => uptoBulkAll elems + uptoBulkAll spare + 1
  | .agg parts => uptoBulkAll parts + 1
  | .iface _ d => uptoBulk d + 1
  | .map entries => uptoBulkEntries entries + 1
  | .held _ => 1
def uptoBulkAll {H : Type} : List (DataW H) → Nat
  | [] => 0
  | d :: r => uptoBulk d + uptoBulkAll r
def uptoBulkEntries {H : Type} : List (Lit × DataW H) → Nat
  | [] => 0
  | x :: r => uptoBulkEntry x + uptoBulkEntries r
def uptoBulkEntry {H : Type} : Lit × DataW H → Nat
  | (.string bytes, d) => bytes.length + uptoBulk d + 1
  | (_, d) => uptoBulk d + 1
 end
def uptoSmall : (H : Type) → List (DataW H) → Bool := fun _ ds => decide (uptoBulkAll ds ≤ 1048576)
def OpenSpec.upto (s : _root_.Go.ChangeSpec) : _root_.Go.OpenSpec := { _root_.Go.OpenSpec.ofChange s with cond := some uptoSmall }

/-- 'laws.FnExactJoinPhrase', WHERE WHAT IT READS IS OF BULK AT MOST 1048576: true; the input reads as it did. -/
def fnExactJoinPhraseUptoRow : OpenClaim := { program := "ytkijjgjbpjkbfaa", sum := "45b7f67003ada3b592d0c0a69c51f2dfe89c3220510cb2d0fa3b7bdd68f73d91", func := "loop.example/g01030/laws.FnExactJoinPhrase", spec := "fnExactJoinPhrase", inPlace := ["internal/abi.NoEscape", "internal/bytealg.MakeNoZero"], unfollowed := true, recurses := true, apart := false, narrowed := true }
def FnExactJoinPhraseUptoSaid : Prop := fnExactJoinPhraseUptoRow.holds Try.pinned (OpenSpec.upto fnExactJoinPhraseSpec)

/-- 'laws.FnExactJoinLetters', WHERE WHAT IT READS IS OF BULK AT MOST 1048576: true; the input reads as it did. -/
def fnExactJoinLettersUptoRow : OpenClaim := { program := "ytkijjgjbpjkbfaa", sum := "45b7f67003ada3b592d0c0a69c51f2dfe89c3220510cb2d0fa3b7bdd68f73d91", func := "loop.example/g01030/laws.FnExactJoinLetters", spec := "fnExactJoinLetters", inPlace := ["internal/abi.NoEscape"], apart := false, narrowed := true }
def FnExactJoinLettersUptoSaid : Prop := fnExactJoinLettersUptoRow.holds Try.pinned (OpenSpec.upto fnExactJoinLettersSpec)

/-- 'laws.FnExactIsSpelling', WHERE WHAT IT READS IS OF BULK AT MOST 1048576: true; the input reads as it did. -/
def fnExactIsSpellingUptoRow : OpenClaim := { program := "ytkijjgjbpjkbfaa", sum := "45b7f67003ada3b592d0c0a69c51f2dfe89c3220510cb2d0fa3b7bdd68f73d91", func := "loop.example/g01030/laws.FnExactIsSpelling", spec := "fnExactIsSpelling", inPlace := ["internal/abi.NoEscape"], unfollowed := true, recurses := true, apart := false, narrowed := true }
def FnExactIsSpellingUptoSaid : Prop := fnExactIsSpellingUptoRow.holds Try.pinned (OpenSpec.upto fnExactIsSpellingSpec)

/-- 'laws.FnExactCountSpellings', WHERE WHAT IT READS IS OF BULK AT MOST 1048576: true; the input reads as it did. -/
def fnExactCountSpellingsUptoRow : OpenClaim := { program := "ytkijjgjbpjkbfaa", sum := "45b7f67003ada3b592d0c0a69c51f2dfe89c3220510cb2d0fa3b7bdd68f73d91", func := "loop.example/g01030/laws.FnExactCountSpellings", spec := "fnExactCountSpellings", apart := false, narrowed := true }
def FnExactCountSpellingsUptoSaid : Prop := fnExactCountSpellingsUptoRow.holds Try.pinned (OpenSpec.upto fnExactCountSpellingsSpec)

end Rows
end Go.Proofs.Ytkijjgjbpjkbfaa
